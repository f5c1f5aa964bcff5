/- Texts of this proof laid together: TxtH, TxtI, MrL. -/
import Derived.Test.YtdhoimjkgicneaaGreatDoorLot21
import Derived.Test.YtdhoimjkgicneaaGreatDoorLot22
import Derived.WideLaws
import Derived.Lib.SmallJoins
import Derived.Test.YtdhoimjkgicneaaGreatDoorLot19
import Derived.Shelf.Pu.ErrVarParseUint
import Derived.OwnWalk
/- The program's own reading of a real number. -/
namespace Go.Proofs.YtdhoimjkgicneaaGreatDoor
open Go Go.RowKit

/-- How the library's reading of a whole number ends: the number, or an error beside some number. -/
def NumOf (r : Lib.NumEnd Int) (w : World) (e : Ending) (w' : World) : Prop :=
  ((∃ v, r = .ok v ∧ e = .returned (.tuple #[.int .i64 v, .nilIface])) ∨ ((∀ v, r ≠ .ok v) ∧ ∃ v t p, e = .returned (.tuple #[.int .i64 v, .iface t (.pointer p)]))) ∧ Below w.heap.size w w'

theorem bytes_below {w w' : World} (h : w' = w ∨ ∃ t, w' = Lib.bytesWorld w 5 t) : Below w.heap.size w w' := by
  rcases h with rfl | ⟨t, rfl⟩
  · exact Below.refl _ _
  · exact Joins.below_bytesWorld _ _ _ _ (Nat.le_refl _)

theorem lib_atoi (s : ByteArray) (w : World) (hs : s.size ≤ 6000) (T : RTab w) : Calls Tryz.prog 124 #[.string s] w (NumOf (Lib.atoiAll s.data.toList) w) := by
  cases h : Lib.atoiAll s.data.toList
  · rename_i v
    exact (Tryz.strconv_Atoi_ok s (by omega) v h w).mono fun e w' ⟨he, hw⟩ => ⟨Or.inl ⟨v, rfl, he⟩, bytes_below hw⟩
  · obtain ⟨te, pe, hv⟩ := T.es
    refine (Any.strconv_Atoi_syntax_var Tryz.laysC172 s (by omega) h te pe w hv).mono ?_
    rintro e w' ⟨N, he, -, -, hb⟩
    exact ⟨Or.inr ⟨(fun v hv => by cases hv), _, _, _, he⟩, hb⟩
  · obtain ⟨te, pe, hv⟩ := T.er
    refine (Tryz.strconv_Atoi_range s (by omega) h (.iface te pe) w hv (Or.inr ⟨te, pe, rfl⟩)).mono ?_
    rintro e w' ⟨N, he, -, -, hb⟩
    exact ⟨Or.inr ⟨(fun v hv => by cases hv), _, _, _, he⟩, hb⟩

theorem lib_parse (s : ByteArray) (w : World) (hs : s.size ≤ 6000) (T : RTab w) : Calls Tryz.prog 45 #[.string s, .int .i64 10, .int .i64 64] w (NumOf (Lib.parseIntB 64 s.data.toList) w) := by
  cases h : Lib.parseIntB 64 s.data.toList
  · rename_i v
    exact (Tryz.strconv_ParseInt_10_at64_ok s (by omega) v h w).mono fun e w' ⟨he, hw⟩ => ⟨Or.inl ⟨v, rfl, he⟩, bytes_below hw⟩
  · obtain ⟨te, pe, hv⟩ := T.es
    refine (Any.strconv_ParseInt_10_at64_syntax_var Tryz.laysC174 s (by omega) h te pe w hv).mono ?_
    rintro e w' ⟨N, he, -, -, hb⟩
    exact ⟨Or.inr ⟨(fun v hv => by cases hv), _, _, _, he⟩, hb⟩
  · obtain ⟨te, pe, hv⟩ := T.er
    refine (Tryz.strconv_ParseInt_10_at64_range s (by omega) h (.iface te pe) w hv (Or.inr ⟨te, pe, rfl⟩)).mono ?_
    rintro e w' ⟨N, he, -, -, hb⟩
    exact ⟨Or.inr ⟨(fun v hv => by cases hv), _, _, _, he⟩, hb⟩

/-- What the program's scan of a text leaves: some word, and the very one if the text is one's. -/
def ScanOf (l : List UInt8) (w : World) (e : Ending) (w' : World) : Prop := ∃ z, e = .returned (.float .f64 z) ∧ ((∀ y, Txt y l → Same z y) ∧ z < 18446744073709551616) ∧ Below w.heap.size w w'

theorem scan_of {l : List UInt8} {w w' : World} {z : Nat} (h : Txt z l) (hz : z < 18446744073709551616) (hb : Below w.heap.size w w') : ScanOf l w (.returned (.float .f64 z)) w' := ⟨z, rfl, ⟨fun _ hy => txt_same h hy, hz⟩, hb⟩

theorem odd_le {m k n c : Nat} (ho : n % 2 = 1) (hv : m * 2 ^ k = n * 2 ^ c) (hm : m < 9007199254740992) : n < 9007199254740992 := by
  by_cases hk : k ≤ c
  · have e : m * 2 ^ k = n * 2 ^ (c - k) * 2 ^ k := by rw [hv, Nat.mul_assoc, ← Nat.pow_add]; congr 2; omega
    have e2 := Nat.eq_of_mul_eq_mul_right (Nat.two_pow_pos k) e
    have : n ≤ m := by rw [e2]; exact Nat.le_mul_of_pos_right _ (Nat.two_pow_pos _)
    omega
  · exfalso
    have e : m * 2 ^ (k - c) * 2 ^ c = n * 2 ^ c := by rw [← hv, Nat.mul_assoc, ← Nat.pow_add]; congr 2; omega
    have e2 := Nat.eq_of_mul_eq_mul_right (Nat.two_pow_pos c) e
    have : 2 ^ (k - c) = 2 * 2 ^ (k - c - 1) := by rw [← Nat.pow_succ']; congr 1; omega
    rw [this, Nat.mul_left_comm] at e2
    omega

/-- A text that some number other than nought has. -/
def FinT (l : List UInt8) (s : Bool) (n c : Nat) : Prop := l = finL s n c ∧ n % 2 = 1 ∧ n < 9007199254740992 ∧ n * 2 ^ c < 2 ^ u98 ∧ c < 2098

theorem fin_of {s : Bool} {m k n c : Nat} {x : Nat} (h : Num x s m k) (ho : n % 2 = 1) (hv : m * 2 ^ k = n * 2 ^ c) : FinT (finL s n c) s n c :=
  ⟨rfl, ho, odd_le ho hv h.m53, by rw [← hv]; exact h.lt98, c_bound hv h.lt98 ho⟩

theorem txt_fin {l : List UInt8} {s : Bool} {n c z m k : Nat} (h : FinT l s n c) (hz : Num z s m k) (hv : m * 2 ^ k = n * 2 ^ c) : Txt z l := by
  obtain ⟨rfl, h1, h2, h3, h4⟩ := h
  refine Or.inr (Or.inr (Or.inr ⟨s, m, k, n, c, hz, ?_, h1, hv, rfl⟩))
  intro h0
  subst h0
  rw [Nat.zero_mul] at hv
  rcases Nat.mul_eq_zero.1 hv.symm with h | h
  · omega
  · exact absurd h (Nat.ne_of_gt (Nat.two_pow_pos _))

set_option maxHeartbeats 400000 in
theorem scan_words (s : ByteArray) (w : World) (h : s = ⟨#[110, 97, 110]⟩ ∨ s = ⟨#[105, 110, 102]⟩ ∨ s = ⟨#[45, 105, 110, 102]⟩ ∨ s = ⟨#[45, 48]⟩) :
    Calls Tryz.prog 87 #[.string s] w (ScanOf s.data.toList w) := by
  rcases h with rfl | rfl | rfl | rfl
  · go_enter Tryz.func87, Tryz.ntmps87
    go_wp2_with (go_at_call 121; refine (lib_nan _).mono ?_; rintro e w' ⟨rfl, rfl⟩)
    go_ret
    exact scan_of (Or.inl ⟨⟨false, 2251799813685249, by decide +kernel⟩, rfl⟩) (by decide) (Below.refl _ _)
  · go_enter Tryz.func87, Tryz.ntmps87
    go_wp2_with (go_at_call 122; refine (lib_inf _).mono ?_; rintro e w' ⟨rfl, rfl⟩)
    go_ret
    exact scan_of (Or.inr (Or.inl ⟨false, by decide +kernel, rfl⟩)) (by decide) (Below.refl _ _)
  · go_enter Tryz.func87, Tryz.ntmps87
    go_wp2_with (go_at_call 122; refine (lib_neg_inf _).mono ?_; rintro e w' ⟨rfl, rfl⟩)
    go_ret
    exact scan_of (Or.inr (Or.inl ⟨true, by decide +kernel, rfl⟩)) (by decide) (Below.refl _ _)
  · go_enter Tryz.func87, Tryz.ntmps87
    go_wp2_with (go_at_call 123; refine (impl_mzero _).mono ?_; rintro e w' ⟨rfl, rfl⟩)
    go_ret
    exact scan_of (Or.inr (Or.inr (Or.inl ⟨true, 0, ⟨by decide +kernel, by decide, by decide, Or.inl rfl⟩, rfl⟩))) (by decide) (Below.refl _ _)

end Go.Proofs.YtdhoimjkgicneaaGreatDoor

/- The program's own reading of a real number: any text. -/
namespace Go.Proofs.YtdhoimjkgicneaaGreatDoor
open Go Go.RowKit

theorem lib_cut (s : ByteArray) (w : World) (hs : s.size ≤ 6000) (T : RTab w) :
    Calls Tryz.prog 41 #[.string s, .string ⟨#[42, 50, 94]⟩] w fun e w' => e = .returned (.tuple #[.string ⟨(Lib.cut s.data.toList [42, 50, 94]).1.toArray⟩, .string ⟨(Lib.cut s.data.toList [42, 50, 94]).2.1.toArray⟩, .bool (Lib.cut s.data.toList [42, 50, 94]).2.2]) ∧ ∃ n, w' = w.drewN n := by
  obtain ⟨m, hm⟩ := T.mx
  exact Tryz.strings_Cut s ⟨#[42, 50, 94]⟩ m w (by omega) hm

theorem cut_sizes (l : List UInt8) (h : l.length ≤ 6000) : (⟨(Lib.cut l [42, 50, 94]).1.toArray⟩ : ByteArray).size ≤ 6000 ∧ (⟨(Lib.cut l [42, 50, 94]).2.1.toArray⟩ : ByteArray).size ≤ 6000 := by
  rw [str_size, str_size]
  unfold Lib.cut
  split
  · simp; omega
  · simp; omega

theorem toListLen (s : ByteArray) : s.data.toList.length = s.size := by rw [Array.length_toList]; rfl

/-- The four words, and no other. -/
structure NoWord (s : ByteArray) : Prop where
  a : (s.toList == [110, 97, 110]) = false
  b : (s.toList == [105, 110, 102]) = false
  c : (s.toList == [45, 105, 110, 102]) = false
  d : (s.toList == [45, 48]) = false

theorem float_of (s : Bool) (n : Nat) (hn : n < 9007199254740992) (ho : n % 2 = 1) : ∃ m k, Num (floatOfInt .f64 (if s then -(n : Int) else n)) s m k ∧ m * 2 ^ k = n * 2 ^ u74 := by
  obtain ⟨m, k, h1, h2⟩ := num_int (if s then -(n : Int) else n) (by cases s <;> simp <;> omega)
  refine ⟨m, k, ?_, ?_⟩
  · have : decide ((if s then -(n : Int) else n) < 0) = s := by cases s <;> simp; omega
    rw [this] at h1; exact h1
  · rw [h2]; congr 1; cases s <;> simp

set_option maxHeartbeats 800000 in
theorem scan_fin (s : ByteArray) (w : World) (hs : s.size ≤ 6000) (T : RTab w) (N : NoWord s) (sg : Bool) (n c : Nat) (hf : FinT s.data.toList sg n c) :
    Calls Tryz.prog 87 #[.string s] w (ScanOf s.data.toList w) := by
  obtain ⟨a, b, cc, d⟩ := N
  have F : Hid (FinT s.data.toList sg n c) := hf
  obtain ⟨e1, e2, e3, e4, e5⟩ := hf
  have hcut : Hid (Lib.cut s.data.toList [42, 50, 94] = (sgnL sg ++ Lib.decDigits n, Lib.itoa ((c : Int) - 1074), true)) := by
    show Lib.cut s.data.toList [42, 50, 94] = _
    rw [e1]; exact cut_fin sg n c
  have hl1 := dd_len 15 n (by omega)
  have hl2 := itoa_len5 (n := (c : Int) - 1074) (by omega) (by omega)
  have hl3 := sgn_len sg
  have hp : Hid (Lib.parseIntB 64 (sgnL sg ++ Lib.decDigits n) = .ok (if sg then -(n : Int) else n)) := parse_sgn (by simp; omega)
  have ha : Hid (Lib.atoiAll (Lib.itoa ((c : Int) - 1074)) = .ok ((c : Int) - 1074)) := atoiAll_itoa (by omega)
  obtain ⟨m0, k0, f1, f2⟩ := float_of sg n e3 e2
  obtain ⟨v, hv⟩ : ∃ v, v = (if sg then -(n : Int) else n) := ⟨_, rfl⟩
  rw [← hv] at hp f1
  have F1 : Hid (Num (floatOfInt .f64 v) sg m0 k0 ∧ m0 * 2 ^ k0 = n * 2 ^ u74) := ⟨f1, f2⟩
  clear e1 e4 f1 f2 hv
  go_enter Tryz.func87, Tryz.ntmps87
  go_wp2_with fail
  refine (lib_cut s w hs T).mono ?_
  rintro e w1 ⟨rfl, d1, rfl⟩
  rw [hcut.out]
  go_wp2_with fail
  refine (lib_parse ⟨(sgnL sg ++ Lib.decDigits n).toArray⟩ _ (by rw [str_size]; simp; omega) (T.drewN d1)).mono ?_
  rintro e w2 ⟨hr, hb2⟩
  have hr2 : e = .returned (.tuple #[.int .i64 v, .nilIface]) := by
    rcases hr with ⟨v', h1, h2⟩ | ⟨h1, -⟩
    · have h1' : Lib.parseIntB 64 (sgnL sg ++ Lib.decDigits n) = .ok v' := h1
      rw [hp.out] at h1'
      cases h1'
      exact h2
    · exact absurd hp.out (h1 v)
  subst hr2
  have B2 : Hid (Below w.heap.size w w2) := (below_drewN (Below.refl w.heap.size w) d1).trans hb2
  have T2 : Hid (RTab w2) := T.below B2.out (Nat.le_refl _)
  clear hr hb2 T
  go_wp2_with fail
  refine (lib_atoi ⟨(Lib.itoa ((c : Int) - 1074)).toArray⟩ w2 (by rw [str_size]; omega) T2.out).mono ?_
  rintro e w3 ⟨hr, hb3⟩
  have hr2 : e = .returned (.tuple #[.int .i64 ((c : Int) - 1074), .nilIface]) := by
    rcases hr with ⟨v', h1, h2⟩ | ⟨h1, -⟩
    · have h1' : Lib.atoiAll (Lib.itoa ((c : Int) - 1074)) = .ok v' := h1
      rw [ha.out] at h1'
      cases h1'
      exact h2
    · exact absurd ha.out (h1 _)
  subst hr2
  have B3 : Hid (Below w.heap.size w w3) := B2.out.trans (hb3.mono B2.out.size)
  clear hr hb3
  go_wp2_with fail
  refine (times_fin _ m0 k0 n c sg w3 F1.out.1 (foi_lt _) F1.out.2 e3 F.out.2.2.2.1 e5).mono ?_
  rintro e w4 ⟨z, m, k, rfl, hz, hzv, rfl⟩
  have HZ : Hid ((Num z sg m k ∧ z < 18446744073709551616) ∧ m * 2 ^ k = n * 2 ^ c) := ⟨hz, hzv⟩
  clear hz hzv
  go_wp2_with fail
  go_ret
  exact scan_of (txt_fin F.out HZ.out.1.1 HZ.out.2) HZ.out.1.2 B3.out

set_option maxHeartbeats 800000 in
theorem scan_zero (w : World) (T : RTab w) : Calls Tryz.prog 87 #[.string ⟨#[48]⟩] w (ScanOf [48] w) := by
  have hcut : Hid (Lib.cut [48] [42, 50, 94] = ([48], [], false)) := (by decide +kernel : Lib.cut [48] [42, 50, 94] = ([48], [], false))
  go_enter Tryz.func87, Tryz.ntmps87
  go_wp2_with fail
  refine (lib_cut ⟨#[48]⟩ w (by decide) T).mono ?_
  rintro e w1 ⟨rfl, d1, rfl⟩
  rw [show (⟨#[48]⟩ : ByteArray).data.toList = [48] from rfl, hcut.out]
  go_wp2_with fail
  refine (lib_parse ⟨#[48]⟩ _ (by decide) (T.drewN d1)).mono ?_
  rintro e w2 ⟨hr, hb2⟩
  have hr2 : e = .returned (.tuple #[.int .i64 0, .nilIface]) := by
    have h0 : Lib.parseIntB 64 (⟨#[48]⟩ : ByteArray).data.toList = .ok 0 := by decide +kernel
    rcases hr with ⟨v', h1, h2⟩ | ⟨h1, -⟩
    · rw [h0] at h1
      cases h1
      exact h2
    · exact absurd h0 (h1 _)
  subst hr2
  have B2 : Hid (Below w.heap.size w w2) := (below_drewN (Below.refl w.heap.size w) d1).trans hb2
  have T2 : Hid (RTab w2) := T.below B2.out (Nat.le_refl _)
  clear hr hb2 T
  go_wp2_with fail
  refine (lib_atoi ⟨#[]⟩ w2 (by decide) T2.out).mono ?_
  rintro e w3 ⟨hr, hb3⟩
  have hr2 : ∃ v t p, e = .returned (.tuple #[.int .i64 v, .iface t (.pointer p)]) := by
    rcases hr with ⟨v', h1, h2⟩ | ⟨-, h2⟩
    · have h0 : ∀ v, Lib.atoiAll (⟨#[]⟩ : ByteArray).data.toList ≠ .ok v := by intro v hv; cases hv
      exact absurd h1 (h0 _)
    · exact h2
  obtain ⟨v, t, p, rfl⟩ := hr2
  have B3 : Hid (Below w.heap.size w w3) := B2.out.trans (hb3.mono B2.out.size)
  clear hr hb3
  go_wp2_with fail
  go_ret
  exact scan_of (Or.inr (Or.inr (Or.inl ⟨false, 0, num_zero, rfl⟩))) (by decide) B3.out

set_option maxHeartbeats 1000000 in
theorem scan_none (s : ByteArray) (w : World) (hs : s.size ≤ 6000) (T : RTab w) (N : NoWord s) (hn : ∀ y, ¬ Txt y s.data.toList) :
    Calls Tryz.prog 87 #[.string s] w (ScanOf s.data.toList w) := by
  obtain ⟨a, b, cc, d⟩ := N
  have HN : Hid (∀ y, ¬ Txt y s.data.toList) := hn
  obtain ⟨z1, z2⟩ := cut_sizes s.data.toList (by rw [toListLen]; exact hs)
  obtain ⟨t1, ht1⟩ : ∃ t : ByteArray, t = ⟨(Lib.cut s.data.toList [42, 50, 94]).1.toArray⟩ := ⟨_, rfl⟩
  obtain ⟨t2, ht2⟩ : ∃ t : ByteArray, t = ⟨(Lib.cut s.data.toList [42, 50, 94]).2.1.toArray⟩ := ⟨_, rfl⟩
  have H1 : Hid ((⟨(Lib.cut s.data.toList [42, 50, 94]).1.toArray⟩ : ByteArray) = t1) := ht1.symm
  have H2 : Hid ((⟨(Lib.cut s.data.toList [42, 50, 94]).2.1.toArray⟩ : ByteArray) = t2) := ht2.symm
  rw [← ht1] at z1
  rw [← ht2] at z2
  clear hn ht1 ht2
  go_enter Tryz.func87, Tryz.ntmps87
  go_wp2_with fail
  refine (lib_cut s w hs T).mono ?_
  rintro e w1 ⟨rfl, d1, rfl⟩
  rw [H1.out, H2.out]
  go_wp2_with fail
  refine (lib_parse t1 _ z1 (T.drewN d1)).mono ?_
  rintro e w2 ⟨hr, hb2⟩
  have B2 : Hid (Below w.heap.size w w2) := (below_drewN (Below.refl w.heap.size w) d1).trans hb2
  have T2 : Hid (RTab w2) := T.below B2.out (Nat.le_refl _)
  clear hb2 T
  rcases hr with ⟨v, -, rfl⟩ | ⟨-, v, ty, p, rfl⟩
  · go_wp2_with fail
    refine (lib_atoi t2 w2 z2 T2.out).mono ?_
    rintro e w3 ⟨hr, hb3⟩
    have B3 : Hid (Below w.heap.size w w3) := B2.out.trans (hb3.mono B2.out.size)
    clear hb3
    rcases hr with ⟨u, -, rfl⟩ | ⟨-, u, ty, p, rfl⟩
    · by_cases hu : -1074 ≤ u ∧ u ≤ 1023
      · obtain ⟨hu1, hu2⟩ := hu
        go_wp2_with fail
        refine (times_any _ u w3 (foi_lt _) hu1 hu2).mono ?_
        rintro e w4 ⟨z, dd, rfl, hz64, rfl⟩
        go_wp2_with fail
        go_ret
        exact ⟨_, rfl, ⟨fun y hy => absurd hy (HN.out y), hz64⟩, below_drewN B3.out dd⟩
      · by_cases hu1 : u < -1074
        · go_wp2_with fail
          go_ret
          exact ⟨_, rfl, ⟨fun y hy => absurd hy (HN.out y), by decide⟩, B3.out⟩
        · have hu2 : 1023 < u := by omega
          go_wp2_with fail
          go_ret
          exact ⟨_, rfl, ⟨fun y hy => absurd hy (HN.out y), by decide⟩, B3.out⟩
    · go_wp2_with fail
      go_ret
      exact ⟨_, rfl, ⟨fun y hy => absurd hy (HN.out y), by decide⟩, B3.out⟩
  · go_wp2_with fail
    refine (lib_atoi t2 w2 z2 T2.out).mono ?_
    rintro e w3 ⟨hr, hb3⟩
    have B3 : Hid (Below w.heap.size w w3) := B2.out.trans (hb3.mono B2.out.size)
    clear hb3
    rcases hr with ⟨u, -, rfl⟩ | ⟨-, u, ty2, p2, rfl⟩
    · go_wp2_with fail
      go_ret
      exact ⟨_, rfl, ⟨fun y hy => absurd hy (HN.out y), by decide⟩, B3.out⟩
    · go_wp2_with fail
      go_ret
      exact ⟨_, rfl, ⟨fun y hy => absurd hy (HN.out y), by decide⟩, B3.out⟩

theorem scan_any (s : ByteArray) (w : World) (hs : s.size ≤ 6000) (T : RTab w) : Calls Tryz.prog 87 #[.string s] w (ScanOf s.data.toList w) := by
  have eqs : ∀ {l : List UInt8}, s.data.toList = l → s = ⟨l.toArray⟩ := by rintro l rfl; rfl
  have ne : ∀ {l : List UInt8}, s.data.toList ≠ l → (s.toList == l) = false := by
    intro l h
    rw [ByteArray.toList_eq]
    simpa using h
  by_cases h1 : s.data.toList = [110, 97, 110]
  · exact scan_words s w (Or.inl (eqs h1))
  by_cases h2 : s.data.toList = [105, 110, 102]
  · exact scan_words s w (Or.inr (Or.inl (eqs h2)))
  by_cases h3 : s.data.toList = [45, 105, 110, 102]
  · exact scan_words s w (Or.inr (Or.inr (Or.inl (eqs h3))))
  by_cases h4 : s.data.toList = [45, 48]
  · exact scan_words s w (Or.inr (Or.inr (Or.inr (eqs h4))))
  by_cases h5 : s.data.toList = [48]
  · have e := eqs h5
    subst e
    exact scan_zero w T
  have N : NoWord s := ⟨ne h1, ne h2, ne h3, ne h4⟩
  by_cases hf : ∃ sg n c, FinT s.data.toList sg n c
  · obtain ⟨sg, n, c, hf⟩ := hf
    exact scan_fin s w hs T N sg n c hf
  · refine scan_none s w hs T N ?_
    rintro y (⟨-, e⟩ | ⟨t, -, e⟩ | ⟨t, k, -, e⟩ | ⟨t, m, k, n, c, a1, a2, a3, a4, e⟩)
    · exact h1 e
    · cases t
      · exact h2 e
      · exact h3 e
    · cases t
      · exact h5 e
      · exact h4 e
    · exact hf ⟨t, n, c, by rw [e]; exact fin_of a1 a3 a4⟩

theorem same_symm {x y : Nat} (h : Same x y) : Same y x := by
  rcases h with ⟨a, b⟩ | ⟨s, a, b⟩ | ⟨s, m, k, m', k', a, b, e⟩
  · exact Or.inl ⟨b, a⟩
  · exact Or.inr (Or.inl ⟨s, b, a⟩)
  · exact Or.inr (Or.inr ⟨s, m', k', m, k, b, a, e.symm⟩)

/-- What a reading leaves: the word of the text, or nothing. -/
def ReadOf (l : List UInt8) (w : World) (e : Ending) (w' : World) : Prop :=
  ((∃ z, e = .returned (.tuple #[.float .f64 z, .bool true]) ∧ Txt z l ∧ z < 18446744073709551616) ∨ (e = .returned (.tuple #[.float .f64 0, .bool false]) ∧ ∀ z, ¬ Txt z l)) ∧ Below w.heap.size w w'

set_option maxHeartbeats 400000 in
theorem impl_rread (s : ByteArray) (w : World) (hs : s.size ≤ 6000) (T : RTab w) : Calls Tryz.prog 46 #[.string s] w (ReadOf s.data.toList w) := by
  go_enter Tryz.func46, Tryz.ntmps46
  go_wp2_with fail
  refine (scan_any s w hs T).mono ?_
  rintro e w1 ⟨z, rfl, ⟨hz, h64⟩, hb1⟩
  have B1 : Hid (Below w.heap.size w w1) := hb1
  have HZ : Hid (∀ y, Txt y s.data.toList → Same z y) := hz
  have T1 : Hid (RTab w1) := T.below hb1 (Nat.le_refl _)
  have H64 : Hid (z < 18446744073709551616) := h64
  clear hb1 hz T h64
  go_wp2_with fail
  refine (text_any z w1 T1.out).mono ?_
  rintro e w2 ⟨l, rfl, hl, -, hb2⟩
  have B2 : Hid (Below w.heap.size w w2) := B1.out.trans (hb2.mono B1.out.size)
  have HL : Hid (Txt z l) := hl
  clear hb2 hl
  by_cases he : l = s.data.toList
  · have e1 : ((⟨l.toArray⟩ : ByteArray).toList == s.toList) = true := by rw [ByteArray.toList_mk, ByteArray.toList_eq, he]; simp
    have e2 : (l == s.toList) = true := by rw [ByteArray.toList_eq, he]; simp
    have e3 : (l != s.toList) = false := by rw [ByteArray.toList_eq, he]; simp
    go_wp2_with fail
    go_ret2
    exact ⟨Or.inl ⟨z, rfl, by rw [← he]; exact HL.out, H64.out⟩, B2.out⟩
  · have e2 : (l == s.toList) = false := by rw [ByteArray.toList_eq]; simpa using he
    have e3 : (l != s.toList) = true := by rw [ByteArray.toList_eq]; simpa using he
    have HE : Hid (l ≠ s.data.toList) := he
    clear he
    go_wp2_with fail
    go_ret2
    exact ⟨Or.inr ⟨rfl, fun y hy => HE.out (txt_fun HL.out (txt_of_same (same_symm (HZ.out y hy)) hy))⟩, B2.out⟩

end Go.Proofs.YtdhoimjkgicneaaGreatDoor

/- The library's reading of whole numbers, cutting at a sign of equality; the program's memUnmarked. -/
namespace Go.Proofs.YtdhoimjkgicneaaGreatDoor
open Go Go.RowKit

/-- The library's cutting at a sign of equality. -/
theorem eq_none : ∀ {a : List UInt8}, (61 : UInt8) ∉ a → Lib.index a [61] = -1
  | [], _ => by simp [Lib.index]
  | c :: cs, h => by
    have h1 : ¬ (61 : UInt8) = c := fun e => h (by simp [e])
    have h2 : (61 : UInt8) ∉ cs := fun e => h (by simp [e])
    simp [Lib.index, eq_none h2, List.isPrefixOf, h1]

theorem eq_at : ∀ {a r : List UInt8}, (61 : UInt8) ∉ a → Lib.index (a ++ 61 :: r) [61] = a.length
  | [], _, _ => by simp [Lib.index, List.isPrefixOf]
  | c :: cs, r, h => by
    have h1 : ¬ (61 : UInt8) = c := fun e => h (by simp [e])
    have h2 : (61 : UInt8) ∉ cs := fun e => h (by simp [e])
    have ih := eq_at (r := r) h2
    rw [List.cons_append, Lib.index, ih, if_neg (by simp [List.isPrefixOf, h1])]
    have : ((cs.length : Int) == -1) = false := by simp
    rw [this]
    simp

theorem cases_eq : ∀ (l : List UInt8), (61 : UInt8) ∉ l ∨ ∃ a r, l = a ++ 61 :: r ∧ (61 : UInt8) ∉ a
  | [] => Or.inl (by simp)
  | c :: cs => by
    by_cases hc : c = 61
    · exact Or.inr ⟨[], cs, by simp [hc], by simp⟩
    · rcases cases_eq cs with h | ⟨a, r, e, h⟩
      · exact Or.inl (by simp [h, Ne.symm hc])
      · exact Or.inr ⟨c :: a, r, by simp [e], by simp [h, Ne.symm hc]⟩

theorem cut_nv (l : List UInt8) : NV l (Lib.cut l [61]).1 (Lib.cut l [61]).2.1 := by
  rcases cases_eq l with h | ⟨a, r, rfl, h⟩
  · refine Or.inl ⟨h, ?_⟩
    unfold Lib.cut
    rw [eq_none h]
    exact ⟨rfl, rfl⟩
  · refine Or.inr ?_
    unfold Lib.cut
    rw [eq_at h, if_pos (by omega)]
    simp [List.drop_append, h]

theorem nv_len {l nm va : List UInt8} (h : NV l nm va) : nm.length ≤ l.length ∧ va.length ≤ l.length := by
  rcases h with ⟨-, rfl, rfl⟩ | ⟨rfl, -⟩
  · simp
  · simp; omega

theorem lib_cut1 (s : ByteArray) (w : World) (hs : s.size ≤ 6000) (T : RTab w) :
    Calls Tryz.prog 41 #[.string s, .string ⟨#[61]⟩] w fun e w' => ∃ nm va b, e = .returned (.tuple #[.string ⟨nm.toArray⟩, .string ⟨va.toArray⟩, .bool b]) ∧ NV s.data.toList nm va ∧ Below w.heap.size w w' := by
  obtain ⟨m, hm⟩ := T.mx
  refine (Tryz.strings_Cut s ⟨#[61]⟩ m w (by omega) hm).mono ?_
  rintro e w' ⟨rfl, n, rfl⟩
  exact ⟨_, _, _, rfl, cut_nv s.data.toList, below_drewN (Below.refl _ _) n⟩

theorem lib_uint32 (s : ByteArray) (w : World) (hs : s.size ≤ 6000) (T : RTab w) :
    Calls Tryz.prog 42 #[.string s, .int .i64 10, .int .i64 32] w fun e w' => ∃ (v : Nat) (x : Value), e = .returned (.tuple #[.int .u64 v, x]) ∧ v < 4294967296 ∧ (∀ c, c < 4294967296 → s.data.toList = Lib.decDigits c → v = c) ∧ Below w.heap.size w w' := by
  have dig : ∀ c, c < 4294967296 → s.data.toList = Lib.decDigits c → Lib.parseUintB 32 s.data.toList = .ok c := fun c hc e => by rw [e]; exact uint_dig (B := 32) (by omega) (by omega)
  cases h : Lib.parseUintB 32 s.data.toList
  · rename_i v
    refine (Tryz.strconv_ParseUint_10_at32_ok s (by omega) v h w).mono fun e w' ⟨he, hw⟩ => ⟨v, _, he, ?_, fun c hc e => ?_, bytes_below (hw.imp id fun g => ⟨s, g⟩)⟩
    · have := uint_ok h
      omega
    · have := dig c hc e
      rw [h] at this
      cases this
      rfl
  · obtain ⟨te, pe, hv⟩ := T.es
    refine (Any.strconv_ParseUint_10_at32_syntax_var Tryz.laysPu14 s (by omega) h te pe w hv).mono ?_
    rintro e w' ⟨N, he, -, -, hb⟩
    exact ⟨0, _, he, by omega, (fun c hc e => by have := dig c hc e; rw [h] at this; cases this), hb⟩
  · obtain ⟨te, pe, hv⟩ := T.er
    refine (Tryz.strconv_ParseUint_10_at32_range s (by omega) h (.iface te pe) w hv (Or.inr ⟨te, pe, rfl⟩)).mono ?_
    rintro e w' ⟨N, he, -, -, hb⟩
    exact ⟨4294967295, _, he, by omega, (fun c hc e => by have := dig c hc e; rw [h] at this; cases this), hb⟩

theorem lib_uint16 (s : ByteArray) (w : World) (hs : s.size ≤ 6000) (T : RTab w) :
    Calls Tryz.prog 42 #[.string s, .int .i64 10, .int .i64 16] w fun e w' => ∃ (v : Nat) (x : Value), e = .returned (.tuple #[.int .u64 v, x]) ∧ v < 65536 ∧ (∀ c, c < 65536 → s.data.toList = Lib.decDigits c → v = c) ∧ Below w.heap.size w w' := by
  have dig : ∀ c, c < 65536 → s.data.toList = Lib.decDigits c → Lib.parseUintB 16 s.data.toList = .ok c := fun c hc e => by rw [e]; exact uint_dig (B := 16) (by omega) (by omega)
  cases h : Lib.parseUintB 16 s.data.toList
  · rename_i v
    refine (Tryz.strconv_ParseUint_10_at16_ok s (by omega) v h w).mono fun e w' ⟨he, hw⟩ => ⟨v, _, he, ?_, fun c hc e => ?_, bytes_below (hw.imp id fun g => ⟨s, g⟩)⟩
    · have := uint_ok h
      omega
    · have := dig c hc e
      rw [h] at this
      cases this
      rfl
  · obtain ⟨te, pe, hv⟩ := T.es
    refine (Any.strconv_ParseUint_10_at16_syntax_var Tryz.laysPu14 s (by omega) h te pe w hv).mono ?_
    rintro e w' ⟨N, he, -, -, hb⟩
    exact ⟨0, _, he, by omega, (fun c hc e => by have := dig c hc e; rw [h] at this; cases this), hb⟩
  · obtain ⟨te, pe, hv⟩ := T.er
    refine (Tryz.strconv_ParseUint_10_at16_range s (by omega) h (.iface te pe) w hv (Or.inr ⟨te, pe, rfl⟩)).mono ?_
    rintro e w' ⟨N, he, -, -, hb⟩
    exact ⟨65535, _, he, by omega, (fun c hc e => by have := dig c hc e; rw [h] at this; cases this), hb⟩

theorem lib_int16 (s : ByteArray) (w : World) (hs : s.size ≤ 6000) (T : RTab w) :
    Calls Tryz.prog 45 #[.string s, .int .i64 10, .int .i64 16] w fun e w' => ∃ (v : Int) (x : Value), e = .returned (.tuple #[.int .i64 v, x]) ∧ -32768 ≤ v ∧ v ≤ 32767 ∧ (∀ z, -32768 ≤ z → z ≤ 32767 → s.data.toList = Lib.itoa z → v = z) ∧ Below w.heap.size w w' := by
  have dig : ∀ z, -32768 ≤ z → z ≤ 32767 → s.data.toList = Lib.itoa z → Lib.parseIntB 16 s.data.toList = .ok z := fun z h1 h2 e => by rw [e]; exact int_itoa16 h1 h2
  cases h : Lib.parseIntB 16 s.data.toList
  · rename_i v
    obtain ⟨v1, v2⟩ := int_ok16 h
    refine (Tryz.strconv_ParseInt_10_at16_ok s (by omega) v h w).mono fun e w' ⟨he, hw⟩ => ⟨v, _, he, v1, v2, fun c h1 h2 e => ?_, bytes_below hw⟩
    have := dig c h1 h2 e
    rw [h] at this
    cases this
    rfl
  · obtain ⟨te, pe, hv⟩ := T.es
    refine (Any.strconv_ParseInt_10_at16_syntax_var Tryz.laysC174 s (by omega) h te pe w hv).mono ?_
    rintro e w' ⟨N, he, -, -, hb⟩
    exact ⟨0, _, he, by omega, by omega, (fun c h1 h2 e => by have := dig c h1 h2 e; rw [h] at this; cases this), hb⟩
  · obtain ⟨te, pe, hv⟩ := T.er
    obtain ⟨v1, v2⟩ := sat16 s.data.toList
    refine (Tryz.strconv_ParseInt_10_at16_range s (by omega) h (.iface te pe) w hv (Or.inr ⟨te, pe, rfl⟩)).mono ?_
    rintro e w' ⟨N, he, -, -, hb⟩
    exact ⟨_, _, he, v1, v2, (fun c h1 h2 e => by have := dig c h1 h2 e; rw [h] at this; cases this), hb⟩

/-- What the program's memUnmarked answers. -/
def Unmark (l : List UInt8) (c : Nat) (d e : Bool) : Prop := c < 65536 ∧ ∀ c' d' e', c' < 65536 → l = countL c' d' e' → c = c' ∧ d = d' ∧ e = e'

set_option maxHeartbeats 400000 in
theorem impl_unmark (s : ByteArray) (w : World) (hs : s.size ≤ 6000) (T : RTab w) :
    Calls Tryz.prog 44 #[.string s] w fun e w' => ∃ (c : Nat) (d l : Bool), e = .returned (.tuple #[.int .u16 c, .bool d, .bool l]) ∧ Unmark s.data.toList c d l ∧ Below w.heap.size w w' := by
  go_enter Tryz.func44, Tryz.ntmps44
  go_wp2_with fail
  refine (Tryz.strings_CutSuffix s ⟨#[43]⟩ w (by omega)).mono ?_
  rintro e w1 ⟨rfl, rfl⟩
  obtain ⟨l1, h1⟩ : ∃ l1, l1 = Lib.trimSuffix s.data.toList [43] := ⟨_, rfl⟩
  obtain ⟨p, hp⟩ : ∃ p, p = Lib.hasSuffix s.data.toList [43] := ⟨_, rfl⟩
  have s1 : l1.length ≤ 6000 := by
    have := suf_len s.data.toList 43
    have e2 : s.data.toList.length = s.size := by rw [Array.length_toList]; rfl
    rw [h1]; omega
  have H1 : Hid (l1 = Lib.trimSuffix s.data.toList [43] ∧ p = Lib.hasSuffix s.data.toList [43]) := ⟨h1, hp⟩
  rw [show (⟨#[43]⟩ : ByteArray).data.toList = [43] from rfl, ← h1, ← hp]
  clear h1 hp
  go_wp2_with fail
  refine (Tryz.strings_CutSuffix ⟨l1.toArray⟩ ⟨#[33]⟩ w1 (by rw [str_size]; omega)).mono ?_
  rintro e w2 ⟨rfl, rfl⟩
  rw [show (⟨#[33]⟩ : ByteArray).data.toList = [33] from rfl, show (⟨l1.toArray⟩ : ByteArray).data.toList = l1 from by simp]
  obtain ⟨l2, h2⟩ : ∃ l2, l2 = Lib.trimSuffix l1 [33] := ⟨_, rfl⟩
  obtain ⟨q, hq⟩ : ∃ q, q = Lib.hasSuffix l1 [33] := ⟨_, rfl⟩
  have s2 : l2.length ≤ 6000 := by
    have := suf_len l1 33
    rw [h2]; omega
  have H2 : Hid (l2 = Lib.trimSuffix l1 [33] ∧ q = Lib.hasSuffix l1 [33]) := ⟨h2, hq⟩
  rw [← h2, ← hq]
  clear h2 hq
  go_wp2_with fail
  refine (lib_uint16 ⟨l2.toArray⟩ w2 (by rw [str_size]; omega) T).mono ?_
  rintro e w3 ⟨v, x, rfl, hv, hd, hb⟩
  have HV : Hid (v < 65536 ∧ (∀ c, c < 65536 → l2 = Lib.decDigits c → v = c)) := ⟨hv, by simpa using hd⟩
  have HB : Hid (Below w2.heap.size w2 w3) := hb
  have hw : IntKind.u16.wrap (v : Int) = v := by
    have := hv
    simp [IntKind.wrap, IntKind.signed, IntKind.bits]
    omega
  clear hd hb hv T
  go_wp2_with fail
  go_ret3
  refine ⟨v, q, p, rfl, ⟨HV.out.1, ?_⟩, HB.out⟩
  intro c' d' e' hc e
  obtain ⟨a1, a2, a3, a4⟩ := unmark c' d' e'
  obtain ⟨b1, b2⟩ := H1.out
  obtain ⟨b3, b4⟩ := H2.out
  rw [e, a2] at b1
  rw [e, a1] at b2
  rw [b1, a4] at b3
  rw [b1, a3] at b4
  exact ⟨HV.out.2 c' hc b3, b4, b2⟩

end Go.Proofs.YtdhoimjkgicneaaGreatDoor
