/- Texts of this proof laid together: MrW, TxtB, TxtZ. -/
import Derived.Test.YtdhoimjkgicneaaGreatDoorLot18
import Derived.Test.YtdhoimjkgicneaaGreatDoorLot2
import Derived.Test.YtdhoimjkgicneaaGreatDoorLot9
import Derived.WalkKit
import Derived.Below
/- A memory in which a word's value is written, cell by cell. Of no one program. -/
namespace Go.Proofs.YtdhoimjkgicneaaGreatDoor
open Go Go.RowKit

theorem MemAt.upd {b k : Nat} {v : MemV} {u : Value} {w : World} (hA : MemAt b v w) (hk : k < 136) (hu : fitC k u) : MemAt b (v.upd k u) (w.setCell ⟨b, k, none⟩ u) := by
  refine ⟨by simpa [World.setCell] using hA.z, fun i hi => ?_, fun i hi => by rw [World.frozen?_setCell]; exact hA.f i hi⟩
  by_cases e : i = k
  · subst e
    rw [World.cell?_setCell_same _ _ _ (hA.c i hi), upd_same v hk hu]
  · rw [World.cell?_setCell_other _ _ _ _ (by intro hh; cases hh; exact e rfl), hA.c i hi, upd_other v u hi e]

theorem mem_ext {a b : MemV} (hx : a.x = b.x) (hy : a.y = b.y) (hm : a.m = b.m) (hs : a.s = b.s) (he : a.e = b.e) (htD : ∀ i, a.tD i = b.tD i) (htC : ∀ i, a.tC i = b.tC i) (hcD : ∀ i, a.cD i = b.cD i) (hcL : ∀ i, a.cL i = b.cL i) (hcC : ∀ i, a.cC i = b.cC i)
    (hd : ∀ i, a.d i = b.d i) (hr : ∀ i, a.r i = b.r i) (ht : a.time = b.time) (hn : a.ran = b.ran) (hf : a.fault = b.fault) : a = b := by
  cases a; cases b
  simp only at hx hy hm hs he htD htC hcD hcL hcC hd hr ht hn hf
  obtain rfl := hx; obtain rfl := hy; obtain rfl := hm; obtain rfl := hs; obtain rfl := he
  obtain rfl := funext htD; obtain rfl := funext htC; obtain rfl := funext hcD; obtain rfl := funext hcL; obtain rfl := funext hcC
  obtain rfl := funext hd; obtain rfl := funext hr; obtain rfl := ht; obtain rfl := hn; obtain rfl := hf
  rfl

theorem upd_time (v : MemV) (c : Nat) : v.upd 133 (.int .u32 c) = { v with time := c } := by
  refine mem_ext rfl rfl rfl rfl rfl (fun i => ?_) (fun i => ?_) (fun i => ?_) (fun i => ?_) (fun i => ?_) (fun i => ?_) (fun i => ?_) ?_ rfl rfl
  all_goals (simp only [MemV.upd])
  · rw [if_neg (by omega)]
  · rw [if_neg (by omega)]
  · rw [if_neg (by omega)]
  · rw [if_neg (by omega)]
  · rw [if_neg (by omega)]
  · rw [if_neg (by omega)]
  · rw [if_neg (by omega)]
  · simp [natU]

theorem upd_ran (v : MemV) (b : Bool) : v.upd 134 (.bool b) = { v with ran := b } := by
  refine mem_ext rfl rfl rfl rfl rfl (fun i => ?_) (fun i => ?_) (fun i => ?_) (fun i => ?_) (fun i => ?_) (fun i => ?_) (fun i => ?_) rfl rfl rfl
  all_goals (simp only [MemV.upd]; rw [if_neg (by omega)])

theorem upd_fault (v : MemV) (b : Bool) : v.upd 135 (.bool b) = { v with fault := b } := by
  refine mem_ext rfl rfl rfl rfl rfl (fun i => ?_) (fun i => ?_) (fun i => ?_) (fun i => ?_) (fun i => ?_) (fun i => ?_) (fun i => ?_) rfl rfl rfl
  all_goals (simp only [MemV.upd]; rw [if_neg (by omega)])

theorem upd_x (v : MemV) (c : Nat) : v.upd 0 (.int .u32 c) = { v with x := c } := by
  refine mem_ext ?_ rfl rfl rfl rfl (fun i => ?_) (fun i => ?_) (fun i => ?_) (fun i => ?_) (fun i => ?_) (fun i => ?_) (fun i => ?_) rfl rfl rfl
  · simp [MemV.upd, natU]
  all_goals (simp only [MemV.upd]; rw [if_neg (by omega)])

theorem upd_tim (v : MemV) (n c : Nat) (d : Bool) (hn : n < 16) : (v.upd (5 + n * 2) (.bool d)).upd (5 + n * 2 + 1) (.int .u16 c) = timV v n c d := by
  refine mem_ext ?_ ?_ ?_ ?_ ?_ (fun i => ?_) (fun i => ?_) (fun i => ?_) (fun i => ?_) (fun i => ?_) (fun i => ?_) (fun i => ?_) ?_ ?_ ?_
  all_goals (simp only [MemV.upd, timV])
  · rw [if_neg (by omega), if_neg (by omega)]
  · rw [if_neg (by omega), if_neg (by omega)]
  · rw [if_neg (by omega), if_neg (by omega)]
  · rw [if_neg (by omega), if_neg (by omega)]
  · rw [if_neg (by omega), if_neg (by omega)]
  · rw [if_neg (by omega)]
    by_cases h : i = n
    · rw [if_pos (by omega), if_pos h]; rfl
    · rw [if_neg (by omega), if_neg h]
  · by_cases h : i = n
    · rw [if_pos (by omega), if_pos h]; simp [natU]
    · rw [if_neg (by omega), if_neg h, if_neg (by omega)]
  · rw [if_neg (by omega), if_neg (by omega)]
  · rw [if_neg (by omega), if_neg (by omega)]
  · rw [if_neg (by omega), if_neg (by omega)]
  · rw [if_neg (by omega), if_neg (by omega)]
  · rw [if_neg (by omega), if_neg (by omega)]
  · rw [if_neg (by omega), if_neg (by omega)]
  · rw [if_neg (by omega), if_neg (by omega)]
  · rw [if_neg (by omega), if_neg (by omega)]

theorem upd_cnt (v : MemV) (n c : Nat) (d l : Bool) (hn : n < 16) : ((v.upd (37 + n * 3) (.bool d)).upd (37 + n * 3 + 1) (.bool l)).upd (37 + n * 3 + 2) (.int .u16 c) = cntV v n c d l := by
  refine mem_ext ?_ ?_ ?_ ?_ ?_ (fun i => ?_) (fun i => ?_) (fun i => ?_) (fun i => ?_) (fun i => ?_) (fun i => ?_) (fun i => ?_) ?_ ?_ ?_
  all_goals (simp only [MemV.upd, cntV])
  · rw [if_neg (by omega), if_neg (by omega), if_neg (by omega)]
  · rw [if_neg (by omega), if_neg (by omega), if_neg (by omega)]
  · rw [if_neg (by omega), if_neg (by omega), if_neg (by omega)]
  · rw [if_neg (by omega), if_neg (by omega), if_neg (by omega)]
  · rw [if_neg (by omega), if_neg (by omega), if_neg (by omega)]
  · rw [if_neg (by omega), if_neg (by omega), if_neg (by omega)]
  · rw [if_neg (by omega), if_neg (by omega), if_neg (by omega)]
  · rw [if_neg (by omega), if_neg (by omega)]
    by_cases h : i = n
    · rw [if_pos (by omega), if_pos h]; rfl
    · rw [if_neg (by omega), if_neg h]
  · rw [if_neg (by omega)]
    by_cases h : i = n
    · rw [if_pos (by omega), if_pos h]; rfl
    · rw [if_neg (by omega), if_neg h, if_neg (by omega)]
  · by_cases h : i = n
    · rw [if_pos (by omega), if_pos h]; simp [natU]
    · rw [if_neg (by omega), if_neg h, if_neg (by omega), if_neg (by omega)]
  · rw [if_neg (by omega), if_neg (by omega), if_neg (by omega)]
  · rw [if_neg (by omega), if_neg (by omega), if_neg (by omega)]
  · rw [if_neg (by omega), if_neg (by omega), if_neg (by omega)]
  · rw [if_neg (by omega), if_neg (by omega), if_neg (by omega)]
  · rw [if_neg (by omega), if_neg (by omega), if_neg (by omega)]

theorem upd_int (v : MemV) (n : Nat) (z : Int) (hn : n < 32) : v.upd (85 + n) (.int .i16 z) = intV v n z := by
  refine mem_ext ?_ ?_ ?_ ?_ ?_ (fun i => ?_) (fun i => ?_) (fun i => ?_) (fun i => ?_) (fun i => ?_) (fun i => ?_) (fun i => ?_) ?_ ?_ ?_
  all_goals (simp only [MemV.upd, intV])
  · rw [if_neg (by omega)]
  · rw [if_neg (by omega)]
  · rw [if_neg (by omega)]
  · rw [if_neg (by omega)]
  · rw [if_neg (by omega)]
  · rw [if_neg (by omega)]
  · rw [if_neg (by omega)]
  · rw [if_neg (by omega)]
  · rw [if_neg (by omega)]
  · rw [if_neg (by omega)]
  · by_cases h : i = n
    · rw [if_pos (by omega), if_pos h]; rfl
    · rw [if_neg (by omega), if_neg h]
  · rw [if_neg (by omega)]
  · rw [if_neg (by omega)]
  · rw [if_neg (by omega)]
  · rw [if_neg (by omega)]

theorem upd_rea (v : MemV) (n x : Nat) (hn : n < 16) : v.upd (117 + n) (.float .f64 x) = reaV v n x := by
  refine mem_ext ?_ ?_ ?_ ?_ ?_ (fun i => ?_) (fun i => ?_) (fun i => ?_) (fun i => ?_) (fun i => ?_) (fun i => ?_) (fun i => ?_) ?_ ?_ ?_
  all_goals (simp only [MemV.upd, reaV])
  · rw [if_neg (by omega)]
  · rw [if_neg (by omega)]
  · rw [if_neg (by omega)]
  · rw [if_neg (by omega)]
  · rw [if_neg (by omega)]
  · rw [if_neg (by omega)]
  · rw [if_neg (by omega)]
  · rw [if_neg (by omega)]
  · rw [if_neg (by omega)]
  · rw [if_neg (by omega)]
  · rw [if_neg (by omega)]
  · by_cases h : i = n
    · rw [if_pos (by omega), if_pos h]; rfl
    · rw [if_neg (by omega), if_neg h]
  · rw [if_neg (by omega)]
  · rw [if_neg (by omega)]
  · rw [if_neg (by omega)]

theorem tim_ok {v : MemV} {n c : Nat} {d : Bool} (hv : v.Ok) (hc : c < 65536) : (timV v n c d).Ok := by
  refine ⟨hv.x, hv.y, hv.m, hv.s, hv.e, fun i => ?_, hv.cC, hv.d1, hv.d2, hv.r, hv.time⟩
  simp only [timV]
  split
  · exact hc
  · exact hv.tC i
theorem cnt_ok {v : MemV} {n c : Nat} {d l : Bool} (hv : v.Ok) (hc : c < 65536) : (cntV v n c d l).Ok := by
  refine ⟨hv.x, hv.y, hv.m, hv.s, hv.e, hv.tC, fun i => ?_, hv.d1, hv.d2, hv.r, hv.time⟩
  simp only [cntV]
  split
  · exact hc
  · exact hv.cC i
theorem int_okV {v : MemV} {n : Nat} {z : Int} (hv : v.Ok) (h1 : -32768 ≤ z) (h2 : z ≤ 32767) : (intV v n z).Ok := by
  refine ⟨hv.x, hv.y, hv.m, hv.s, hv.e, hv.tC, hv.cC, fun i => ?_, fun i => ?_, hv.r, hv.time⟩
  all_goals (simp only [intV]; split)
  · exact h1
  · exact hv.d1 i
  · exact h2
  · exact hv.d2 i
theorem rea_ok {v : MemV} {n x : Nat} (hv : v.Ok) (h : x < 2 ^ 64) : (reaV v n x).Ok := by
  refine ⟨hv.x, hv.y, hv.m, hv.s, hv.e, hv.tC, hv.cC, hv.d1, hv.d2, fun i => ?_, hv.time⟩
  simp only [reaV]
  split
  · exact h
  · exact hv.r i

/-- A bit that is put on is that bit. -/
theorem pb_or {v : MemV} {k n p : Int} (h : okB k n p = true) (h1 : 1 ≤ k) (h5 : k ≤ 5) : pbV v k n true = orV v k.toNat n.toNat := by
  have hn : 0 ≤ n ∧ n < sizeZ k := by
    unfold okB at h
    rw [if_neg (by omega), if_neg (by omega), if_neg (by omega)] at h
    have := of_decide_eq_true h
    exact ⟨this.1, this.2.1⟩
  have hk : k = 1 ∨ k = 2 ∨ k = 3 ∨ k = 4 ∨ k = 5 := by omega
  have hz : atZ k n = n := by
    have h2 : 0 < sizeZ k := by omega
    have h3 : szR k = sizeZ k := by unfold szR; rw [if_neg (by omega)]
    unfold atZ
    rw [h3, if_neg (by omega)]
    exact Int.emod_eq_of_lt hn.1 hn.2
  rcases hk with rfl | rfl | rfl | rfl | rfl <;> (simp only [pbV, putV, orV, hz, turn_or]; rfl)

theorem pb_ok {v : MemV} {k n : Int} (hv : v.Ok) : (pbV v k n true).Ok := by
  unfold pbV
  split
  · rename_i hk
    subst hk
    have hl : (atZ 1 n).toNat < 32 := by show (n % 32).toNat < 32; omega
    exact ⟨turn_small (s := 32) hv.x hl true, hv.y, hv.m, hv.s, hv.e, hv.tC, hv.cC, hv.d1, hv.d2, hv.r, hv.time⟩
  · unfold putV
    split
    · rename_i hk
      subst hk
      have hl : (atZ 2 n).toNat < 32 := by show (n % 32).toNat < 32; omega
      exact ⟨hv.x, turn_small (s := 32) hv.y hl true, hv.m, hv.s, hv.e, hv.tC, hv.cC, hv.d1, hv.d2, hv.r, hv.time⟩
    split
    · rename_i hk
      subst hk
      have hl : (atZ 3 n).toNat < 64 := by show (n % 64).toNat < 64; omega
      exact ⟨hv.x, hv.y, turn_small (s := 64) hv.m hl true, hv.s, hv.e, hv.tC, hv.cC, hv.d1, hv.d2, hv.r, hv.time⟩
    split
    · rename_i hk
      subst hk
      have hl : (atZ 4 n).toNat < 16 := by show (n % 16).toNat < 16; omega
      exact ⟨hv.x, hv.y, hv.m, turn_small (s := 16) hv.s hl true, hv.e, hv.tC, hv.cC, hv.d1, hv.d2, hv.r, hv.time⟩
    split
    · rename_i hk
      subst hk
      have hl : (atZ 5 n).toNat < 32 := by show (n % 32).toNat < 32; omega
      exact ⟨hv.x, hv.y, hv.m, hv.s, turn_small (s := 32) hv.e hl true, hv.tC, hv.cC, hv.d1, hv.d2, hv.r, hv.time⟩
    · exact hv

theorem pb_none {v : MemV} {k n : Int} (h : k < 1 ∨ 5 < k) : pbV v k n true = v := by
  unfold pbV putV
  rw [if_neg (by omega), if_neg (by omega), if_neg (by omega), if_neg (by omega), if_neg (by omega)]

end Go.Proofs.YtdhoimjkgicneaaGreatDoor

/- Taking a real number above nought apart: the steps, as whole numbers. Of no one program. -/
namespace Go.Proofs.YtdhoimjkgicneaaGreatDoor
open Go Ieee

theorem num_c53 : Num 4845873199050653696 false 4503599627370496 (u74 + 1) := ⟨by decide +kernel, by decide, by decide, Or.inr (by decide)⟩
theorem num_c52 : Num 4841369599423283200 false 4503599627370496 u74 := ⟨by decide +kernel, by decide, by decide, Or.inr (by decide)⟩

theorem ge_of (a b : Nat) : ((some (compare (a : Int) (b : Int)) == some Ordering.gt) || (some (compare (a : Int) (b : Int)) == some Ordering.eq)) = decide (b ≤ a) := by
  rcases Nat.lt_trichotomy a b with h | h | h
  · rw [cmp_lt.2 (Int.ofNat_lt.2 h), show decide (b ≤ a) = false from by simpa using h]; rfl
  · subst h; simp
  · rw [cmp_gt.2 (Int.ofNat_lt.2 h), show decide (b ≤ a) = true from by simpa using Nat.le_of_lt h]; rfl
theorem lt_of (a b : Nat) : (some (compare (a : Int) (b : Int)) == some Ordering.lt) = decide (a < b) := by
  rcases Nat.lt_trichotomy a b with h | h | h
  · rw [cmp_lt.2 (Int.ofNat_lt.2 h), show decide (a < b) = true from by simpa using h]; rfl
  · subst h; simp
  · rw [cmp_gt.2 (Int.ofNat_lt.2 h), show decide (a < b) = false from by simpa using Nat.le_of_lt h]; rfl

theorem sg_pos (n : Nat) : sg false n = (n : Int) := rfl

theorem two_53 : 9007199254740992 * 2 ^ u74 = 4503599627370496 * 2 ^ (u74 + 1) := by rw [Nat.pow_succ]; omega

theorem ge53 {g m k : Nat} (h : Num g false m k) : ((FloatKind.f64.format.order g 4845873199050653696 == some .gt) || (FloatKind.f64.format.order g 4845873199050653696 == some .eq)) = decide (9007199254740992 * 2 ^ u74 ≤ m * 2 ^ k) := by
  have e : FloatKind.f64.format.order g 4845873199050653696 = some (compare (sg false (m * 2 ^ k)) (sg false (4503599627370496 * 2 ^ (u74 + 1)))) := order_val h.val num_c53.val
  rw [e, sg_pos, sg_pos, ← two_53, ge_of]

theorem lt52 {g m k : Nat} (h : Num g false m k) : (FloatKind.f64.format.order g 4841369599423283200 == some .lt) = decide (m * 2 ^ k < 4503599627370496 * 2 ^ u74) := by
  have e : FloatKind.f64.format.order g 4841369599423283200 = some (compare (sg false (m * 2 ^ k)) (sg false (4503599627370496 * 2 ^ u74))) := order_val h.val num_c52.val
  rw [e, sg_pos, sg_pos, lt_of]

theorem k_big {g m k : Nat} {s : Bool} (h : Num g s m k) (hb : 4503599627370496 * 2 ^ u74 ≤ m * 2 ^ k) : 1074 ≤ k := by
  have h1 : (2 : Nat) ^ (52 + u74) < 2 ^ (53 + k) := by
    rw [Nat.pow_add 2 52, Nat.pow_add 2 53, show (2 : Nat) ^ 53 = 9007199254740992 from by decide +kernel, show (2 : Nat) ^ 52 = 4503599627370496 from by decide +kernel]
    exact Nat.lt_of_le_of_lt hb (Nat.mul_lt_mul_of_pos_right h.m53 (Nat.two_pow_pos _))
  have := (Nat.pow_lt_pow_iff_right (a := 2) (by omega)).1 h1
  have := u74_eq
  omega

theorem half_step {g m k : Nat} (h : Num g false m k) (h0 : m ≠ 0) (hb : 9007199254740992 * 2 ^ u74 ≤ m * 2 ^ k) :
    ∃ r m' k', floatBits .quo .f64 g 4611686018427387904 = some r ∧ Num r false m' k' ∧ m' ≠ 0 ∧ m' * 2 ^ k' * 2 = m * 2 ^ k := by
  have hk := k_big h (by omega)
  obtain ⟨r, m', k', r1, r2, r3⟩ := div_two (a := m) (j := k - 1) h (by congr 2; omega) h.m53
  have e : m * 2 ^ (k - 1) * 2 = m * 2 ^ k := by rw [Nat.mul_assoc, ← Nat.pow_succ]; congr 2; omega
  refine ⟨r, m', k', r1, r2, ?_, by rw [r3, e]⟩
  intro hm
  subst hm
  rw [Nat.zero_mul] at r3
  rcases Nat.mul_eq_zero.1 r3.symm with h | h
  · exact h0 h
  · exact absurd h (Nat.ne_of_gt (Nat.two_pow_pos _))

theorem dbl_step {g m k : Nat} (h : Num g false m k) (h0 : m ≠ 0) (hb : m * 2 ^ k < 4503599627370496 * 2 ^ u74) :
    ∃ r m' k', floatBits .mul .f64 g 4611686018427387904 = some r ∧ Num r false m' k' ∧ m' ≠ 0 ∧ m' * 2 ^ k' = m * 2 ^ k * 2 := by
  have e : m * 2 ^ (k + 1) = m * 2 ^ k * 2 := by rw [Nat.pow_succ, Nat.mul_assoc]
  obtain ⟨r, m', k', r1, r2, r3⟩ := mul_two h (by
    rw [e]
    refine Nat.lt_of_lt_of_le (show m * 2 ^ k * 2 < 9007199254740992 * 2 ^ u74 by omega) ?_
    rw [show (9007199254740992 : Nat) = 2 ^ 53 from by decide +kernel, ← Nat.pow_add]
    exact Nat.pow_le_pow_right (by omega) (by rw [u74_eq, u98_eq]; omega))
  refine ⟨r, m', k', r1, r2, ?_, by rw [r3, e]⟩
  intro hm
  subst hm
  rw [Nat.zero_mul] at r3
  rcases Nat.mul_eq_zero.1 r3.symm with h | h
  · exact h0 h
  · exact absurd h (Nat.ne_of_gt (Nat.two_pow_pos _))

theorem whole_step {g m k : Nat} (h : Num g false m k) (h1 : 4503599627370496 * 2 ^ u74 ≤ m * 2 ^ k) (h2 : m * 2 ^ k < 9007199254740992 * 2 ^ u74) :
    floatToIntVal .f64 g .i64 = some (m : Int) ∧ m * 2 ^ k = m * 2 ^ u74 ∧ 4503599627370496 ≤ m := by
  have hk := k_big h h1
  have hm : 4503599627370496 ≤ m := by rcases h.norm with h | h <;> omega
  have hk2 : k ≤ 1074 := by
    have h3 : (2 : Nat) ^ (52 + k) < 2 ^ (53 + u74) := by
      rw [Nat.pow_add 2 52, Nat.pow_add 2 53, show (2 : Nat) ^ 53 = 9007199254740992 from by decide +kernel, show (2 : Nat) ^ 52 = 4503599627370496 from by decide +kernel]
      exact Nat.lt_of_le_of_lt (Nat.mul_le_mul_right _ hm) h2
    have := (Nat.pow_lt_pow_iff_right (a := 2) (by omega)).1 h3
    have := u74_eq
    omega
  have hku : k = u74 := by have := u74_eq; omega
  subst hku
  refine ⟨?_, rfl, hm⟩
  have e : (FloatKind.f64.decode g).toInt .zero = some (m : Int) := by
    rw [cut_num h, Nat.mul_div_cancel _ (Nat.two_pow_pos _)]; rfl
  have := h.m53
  simp only [floatToIntVal, e]
  rw [if_pos]
  simp [IntKind.min, IntKind.max, IntKind.signed, IntKind.bits]
  omega

/-- How often a number can be halved, or doubled. -/
theorem half_bound {W V j : Nat} (h : W * 2 ^ j = V) (hV : V < 2 ^ u98) (hW : 9007199254740992 * 2 ^ u74 ≤ W) : j < 971 := by
  have h1 : (2 : Nat) ^ (53 + u74 + j) < 2 ^ u98 := by
    refine Nat.lt_of_le_of_lt ?_ hV
    rw [← h, Nat.pow_add, Nat.pow_add 2 53]
    exact Nat.mul_le_mul_right _ (by rw [show (2 : Nat) ^ 53 = 9007199254740992 from by decide +kernel]; exact hW)
  have := (Nat.pow_lt_pow_iff_right (a := 2) (by omega)).1 h1
  have := u74_eq
  have := u98_eq
  omega

theorem dbl_bound {W W1 i : Nat} (h : W = W1 * 2 ^ i) (h1 : W1 ≠ 0) (hW : W < 9007199254740992 * 2 ^ u74) : i < 1127 := by
  have h2 : (2 : Nat) ^ i < 2 ^ (53 + u74) := by
    rw [Nat.pow_add 2 53, show (2 : Nat) ^ 53 = 9007199254740992 from by decide +kernel]
    refine Nat.lt_of_le_of_lt ?_ hW
    rw [h]
    exact Nat.le_mul_of_pos_left _ (by omega)
  have := (Nat.pow_lt_pow_iff_right (a := 2) (by omega)).1 h2
  have := u74_eq
  omega

theorem odd_bound {n m t : Nat} (h : n * 2 ^ t = m) (hn : n ≠ 0) (hm : m < 9007199254740992) : t < 53 := by
  have h2 : (2 : Nat) ^ t < 2 ^ 53 := by
    rw [show (2 : Nat) ^ 53 = 9007199254740992 from by decide +kernel]
    refine Nat.lt_of_le_of_lt ?_ hm
    rw [← h]
    exact Nat.le_mul_of_pos_left _ (by omega)
  exact (Nat.pow_lt_pow_iff_right (a := 2) (by omega)).1 h2

/-- What comes of the three loops. -/
theorem parts_endU {V W1 m n j i t u : Nat} (hu : u = 1074) (hV : W1 * 2 ^ j = V) (hW : m * 2 ^ u = W1 * 2 ^ i) (hn : n * 2 ^ t = m) (ho : n % 2 = 1) :
    ∃ c : Nat, V = n * 2 ^ c ∧ (c : Int) - 1074 = (j : Int) - i + t := by
  have e : V * 2 ^ i = n * 2 ^ (t + u + j) := by
    rw [← hV, Nat.mul_right_comm, ← hW, ← hn, Nat.mul_assoc, Nat.mul_assoc, ← Nat.pow_add, ← Nat.pow_add]
    congr 2
    omega
  by_cases hle : i ≤ t + u + j
  · refine ⟨t + u + j - i, ?_, by omega⟩
    have e2 : V * 2 ^ i = n * 2 ^ (t + u + j - i) * 2 ^ i := by rw [e, Nat.mul_assoc, ← Nat.pow_add]; congr 2; omega
    exact Nat.eq_of_mul_eq_mul_right (Nat.two_pow_pos i) e2
  · exfalso
    have e2 : V * 2 ^ (i - (t + u + j)) * 2 ^ (t + u + j) = n * 2 ^ (t + u + j) := by rw [← e, Nat.mul_assoc, ← Nat.pow_add]; congr 2; omega
    have e3 := Nat.eq_of_mul_eq_mul_right (Nat.two_pow_pos _) e2
    have : 2 ^ (i - (t + u + j)) = 2 * 2 ^ (i - (t + u + j) - 1) := by rw [← Nat.pow_succ']; congr 1; omega
    rw [this, Nat.mul_left_comm] at e3
    omega

theorem parts_end {V W1 m n j i t : Nat} (hV : W1 * 2 ^ j = V) (hW : m * 2 ^ u74 = W1 * 2 ^ i) (hn : n * 2 ^ t = m) (ho : n % 2 = 1) :
    ∃ c : Nat, V = n * 2 ^ c ∧ (c : Int) - 1074 = (j : Int) - i + t := parts_endU u74_eq hV hW hn ho

end Go.Proofs.YtdhoimjkgicneaaGreatDoor

/- The text of a real number: what its walks lean on. Of no one program. -/
namespace Go.Proofs.YtdhoimjkgicneaaGreatDoor
open Go Go.RowKit

theorem half_eq {a b c V : Nat} (h : a * 2 = b) (h2 : b * 2 ^ c = V) : a * 2 ^ (c + 1) = V := by rw [← h2, ← h, Nat.pow_succ', Nat.mul_assoc]
theorem dbl_eq {a b c W : Nat} (h : a = b * 2) (h2 : b = W * 2 ^ c) : a = W * 2 ^ (c + 1) := by rw [h, h2, Nat.pow_succ, Nat.mul_assoc]

theorem half_odd {N t m : Nat} (hev : N % 2 = 0) (ht : N * 2 ^ t = m) : N / 2 * 2 ^ (t + 1) = m := by
  rw [← ht, Nat.pow_succ', ← Nat.mul_assoc]
  congr 1
  omega

section
open Ieee

theorem num_zero : Num 0 false 0 0 := ⟨by decide +kernel, by decide, by decide, Or.inl rfl⟩
theorem num_max : Num 9218868437227405311 false 9007199254740991 2045 := ⟨by decide +kernel, by decide, by decide, Or.inr (by decide)⟩

theorem read_neg (x : Nat) : double.read (Op.negFloat .f64 x) = (double.read x).opposite := by
  have e : Op.negFloat .f64 x = x ^^^ 2 ^ 63 := rfl
  have h1 : (x ^^^ 2 ^ 63) % 9223372036854775808 = x % 9223372036854775808 := by
    rw [show (9223372036854775808 : Nat) = 2 ^ 63 from by decide +kernel, Nat.xor_mod_two_pow, Nat.mod_self, Nat.xor_zero]
  have h2 : ((x ^^^ 2 ^ 63) / 9223372036854775808 % 2 == 1) = !(x / 9223372036854775808 % 2 == 1) := by
    rw [show (9223372036854775808 : Nat) = 2 ^ 63 from by decide +kernel, Nat.xor_div_two_pow, Nat.div_self (Nat.two_pow_pos _)]
    obtain ⟨a, ha⟩ : ∃ a, x / 2 ^ 63 = a := ⟨_, rfl⟩
    rw [ha]
    have hx : (a ^^^ 1) % 2 = a % 2 ^^^ 1 % 2 := Nat.xor_mod_two_pow (n := 1)
    rw [hx]
    have : a % 2 = 0 ∨ a % 2 = 1 := by omega
    rcases this with h | h
    · rw [h]; rfl
    · rw [h]; rfl
  rw [e]
  simp only [Format.read, d_sw, d_bin, d_inf, h1, h2]
  split
  · rfl
  · split
    · rfl
    · split <;> rfl

theorem Num.neg {x m k : Nat} {s : Bool} (h : Num x s m k) : Num (Op.negFloat .f64 x) (!s) m k := ⟨by rw [read_neg, h.read]; rfl, h.m53, h.k45, h.norm⟩

theorem Num.self {x m k : Nat} {s : Bool} (h : Num x s m k) : FloatKind.f64.format.order x x = some .eq := ord_eq h.val h.val rfl

theorem inf_self {x : Nat} {s : Bool} (h : double.read x = .infinity s) : FloatKind.f64.format.order x x = some .eq := by
  show double.order x x = _
  simp [Format.order, h, Datum.order]
theorem inf_zero {x : Nat} {s : Bool} (h : double.read x = .infinity s) : FloatKind.f64.format.order x 0 = some (if s then .lt else .gt) := by
  show double.order x 0 = _
  simp only [Format.order, h, num_zero.read, Datum.order]
theorem inf_max {x : Nat} (h : double.read x = .infinity false) : FloatKind.f64.format.order x 9218868437227405311 = some .gt := by
  show double.order x _ = _
  simp only [Format.order, h, num_max.read, Datum.order]
  rfl

theorem Num.zero {x m k : Nat} {s : Bool} (h : Num x s m k) : FloatKind.f64.format.order x 0 = some (if m = 0 then .eq else if s then .lt else .gt) := by
  have e : FloatKind.f64.format.order x 0 = some (compare (sg s (m * 2 ^ k)) (sg false (0 * 2 ^ 0))) := order_val h.val num_zero.val
  rw [e]
  by_cases hm : m = 0
  · subst hm; cases s <;> simp [sg]
  · have hp : 0 < m * 2 ^ k := Nat.pos_of_ne_zero (Nat.mul_ne_zero hm (Nat.ne_of_gt (Nat.two_pow_pos _)))
    rw [if_neg hm]
    cases s
    · rw [cmp_gt.2 (by simp only [sg, Bool.false_eq_true, if_false]; omega)]; rfl
    · rw [cmp_lt.2 (by simp only [sg, Bool.false_eq_true, if_false, if_true]; omega)]; rfl

theorem Num.max {x m k : Nat} {s : Bool} (h : Num x s m k) : (FloatKind.f64.format.order x 9218868437227405311 == some .gt) = false := by
  obtain ⟨K, hK⟩ : ∃ K, K = 2045 := ⟨_, rfl⟩
  have hn : Num 9218868437227405311 false 9007199254740991 K := by rw [hK]; exact num_max
  have e : FloatKind.f64.format.order x 9218868437227405311 = some (compare (sg s (m * 2 ^ k)) (sg false (9007199254740991 * 2 ^ K))) := order_val h.val hn.val
  have hle : m * 2 ^ k ≤ 9007199254740991 * 2 ^ K := Nat.mul_le_mul (by have := h.m53; omega) (Nat.pow_le_pow_right (by omega) (by have := h.k45; omega))
  have hle2 : sg s (m * 2 ^ k) ≤ sg false (9007199254740991 * 2 ^ K) := by cases s <;> simp only [sg, Bool.false_eq_true, if_false, if_true] <;> omega
  rw [e]
  rcases Int.lt_or_eq_of_le hle2 with g | g
  · rw [cmp_lt.2 g]; rfl
  · rw [g]; simp

end

theorem ret_strR {a b : ByteArray} (h : a = b) : Ending.returned (.string a) = .returned (.string b) := by rw [h]

/-- What a text of a real number leaves. -/
def Wrote (x : Nat) (w : World) (e : Ending) (w' : World) : Prop := ∃ l, e = .returned (.string ⟨l.toArray⟩) ∧ Txt x l ∧ l.length ≤ 50 ∧ Below w.heap.size w w'

theorem itoa_nat (n : Nat) : Lib.itoa (n : Int) = Lib.decDigits n := by unfold Lib.itoa; rw [if_neg (by omega)]; rfl
theorem c_bound {V n c : Nat} (h : V = n * 2 ^ c) (hV : V < 2 ^ u98) (hn : n % 2 = 1) : c < 2098 := by
  have h1 : (2 : Nat) ^ c < 2 ^ u98 := by
    refine Nat.lt_of_le_of_lt ?_ hV
    rw [h]
    exact Nat.le_mul_of_pos_left _ (by omega)
  have := (Nat.pow_lt_pow_iff_right (a := 2) (by omega)).1 h1
  have := u98_eq
  omega
theorem itoa_len5 {n : Int} (h1 : -9999 ≤ n) (h2 : n ≤ 9999) : (Lib.itoa n).length ≤ 5 := by
  unfold Lib.itoa
  split
  · have := dd_len 3 n.natAbs (by omega)
    simp; omega
  · have := dd_len 3 n.toNat (by omega)
    omega

theorem div_one_zero {x k : Nat} {s : Bool} (h : Num x s 0 k) : Ieee.double.div 4607182418800017408 x = some (Ieee.double.word s 9218868437227405312) := by
  have r1 : Ieee.double.read 4607182418800017408 = .number false 4503599627370496 (-52) := by decide +kernel
  simp [Ieee.Format.div, r1, h.read, Ieee.Datum.quotient, Ieee.Format.write, d_inf]

theorem finL_bd {s : Bool} {n c : Nat} (h1 : n < 9007199254740992) (h2 : c < 2098) : (finL s n c).length ≤ 30 := by
  have hl1 := dd_len 15 n (by omega)
  have hl2 := itoa_len5 (n := (c : Int) - 1074) (by omega) (by omega)
  have := sgn_len s
  simp [finL]
  omega

theorem txt_minus {x : Nat} {l : List UInt8} (h : Ieee.double.read x = .infinity true ∨ ∃ m k, Num x true m k ∧ m ≠ 0) (hl : Txt (Op.negFloat .f64 x) l) : Txt x (45 :: l) := by
  rcases h with h | ⟨m, k, h, h0⟩
  · have hn : Ieee.double.read (Op.negFloat .f64 x) = .infinity false := by rw [read_neg, h]; rfl
    have h2 : Txt (Op.negFloat .f64 x) (sgnL false ++ [105, 110, 102]) := Or.inr (Or.inl ⟨false, hn, rfl⟩)
    rw [txt_fun hl h2]
    exact Or.inr (Or.inl ⟨true, h, rfl⟩)
  · have hn := h.neg
    rcases hl with ⟨⟨s', t, h1⟩, -⟩ | ⟨s', h1, -⟩ | ⟨s', k2, h1, -⟩ | ⟨s', m2, k2, n, c, h1, h2, h3, h4, rfl⟩
    · have := hn.read; rw [h1] at this; cases this
    · have := hn.read; rw [h1] at this; cases this
    · obtain ⟨-, e, -⟩ := num_read hn h1; exact absurd e h0
    · obtain ⟨e1, rfl, rfl⟩ := num_read hn h1
      have e2 : s' = false := e1.symm
      subst e2
      exact Or.inr (Or.inr (Or.inr ⟨true, m, k, n, c, h, h0, h3, h4, rfl⟩))

end Go.Proofs.YtdhoimjkgicneaaGreatDoor
