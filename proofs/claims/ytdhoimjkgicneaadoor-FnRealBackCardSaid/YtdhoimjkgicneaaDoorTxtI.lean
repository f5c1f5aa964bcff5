/- The program's own reading of a real number: any text. -/
import Derived.Test.YtdhoimjkgicneaaDoorTxtH
namespace Go.Proofs.YtdhoimjkgicneaaDoor
open Go Go.RowKit

theorem lib_cut (s : ByteArray) (w : World) (hs : s.size ≤ 1000) (T : RTab w) :
    Calls Tryd.prog 124 #[.string s, .string ⟨#[42, 50, 94]⟩] w fun e w' => e = .returned (.tuple #[.string ⟨(Lib.cut s.data.toList [42, 50, 94]).1.toArray⟩, .string ⟨(Lib.cut s.data.toList [42, 50, 94]).2.1.toArray⟩, .bool (Lib.cut s.data.toList [42, 50, 94]).2.2]) ∧ ∃ n, w' = w.drewN n := by
  obtain ⟨m, hm⟩ := T.mx
  exact Tryd.strings_Cut s ⟨#[42, 50, 94]⟩ m w (by omega) hm

theorem cut_sizes (l : List UInt8) (h : l.length ≤ 1000) : (⟨(Lib.cut l [42, 50, 94]).1.toArray⟩ : ByteArray).size ≤ 1000 ∧ (⟨(Lib.cut l [42, 50, 94]).2.1.toArray⟩ : ByteArray).size ≤ 1000 := by
  rw [str_size, str_size]
  unfold Lib.cut
  split
  · simp; omega
  · simp; omega

theorem toListLen (s : ByteArray) : s.data.toList.length = s.size := by rw [Array.length_toList]; rfl

/-- The four words, and no other. -/
structure NoWord (s : ByteArray) : Prop where
  a : (s.toList == [110, 97, 110]) = false
  b : (s.toList == [105, 110, 102]) = false
  c : (s.toList == [45, 105, 110, 102]) = false
  d : (s.toList == [45, 48]) = false

theorem float_of (s : Bool) (n : Nat) (hn : n < 9007199254740992) (ho : n % 2 = 1) : ∃ m k, Num (floatOfInt .f64 (if s then -(n : Int) else n)) s m k ∧ m * 2 ^ k = n * 2 ^ u74 := by
  obtain ⟨m, k, h1, h2⟩ := num_int (if s then -(n : Int) else n) (by cases s <;> simp <;> omega)
  refine ⟨m, k, ?_, ?_⟩
  · have : decide ((if s then -(n : Int) else n) < 0) = s := by cases s <;> simp; omega
    rw [this] at h1; exact h1
  · rw [h2]; congr 1; cases s <;> simp

set_option maxHeartbeats 800000 in
theorem scan_fin (s : ByteArray) (w : World) (hs : s.size ≤ 1000) (T : RTab w) (N : NoWord s) (sg : Bool) (n c : Nat) (hf : FinT s.data.toList sg n c) :
    Calls Tryd.prog 78 #[.string s] w (ScanOf s.data.toList w) := by
  obtain ⟨a, b, cc, d⟩ := N
  have F : Hid (FinT s.data.toList sg n c) := hf
  obtain ⟨e1, e2, e3, e4, e5⟩ := hf
  have hcut : Hid (Lib.cut s.data.toList [42, 50, 94] = (sgnL sg ++ Lib.decDigits n, Lib.itoa ((c : Int) - 1074), true)) := by
    show Lib.cut s.data.toList [42, 50, 94] = _
    rw [e1]; exact cut_fin sg n c
  have hl1 := dd_len 15 n (by omega)
  have hl2 := itoa_len5 (n := (c : Int) - 1074) (by omega) (by omega)
  have hl3 := sgn_len sg
  have hp : Hid (Lib.parseIntB 64 (sgnL sg ++ Lib.decDigits n) = .ok (if sg then -(n : Int) else n)) := parse_sgn (by simp; omega)
  have ha : Hid (Lib.atoiAll (Lib.itoa ((c : Int) - 1074)) = .ok ((c : Int) - 1074)) := atoiAll_itoa (by omega)
  obtain ⟨m0, k0, f1, f2⟩ := float_of sg n e3 e2
  obtain ⟨v, hv⟩ : ∃ v, v = (if sg then -(n : Int) else n) := ⟨_, rfl⟩
  rw [← hv] at hp f1
  have F1 : Hid (Num (floatOfInt .f64 v) sg m0 k0 ∧ m0 * 2 ^ k0 = n * 2 ^ u74) := ⟨f1, f2⟩
  clear e1 e4 f1 f2 hv
  go_enter Tryd.func78, Tryd.ntmps78
  go_wp2_with fail
  refine (lib_cut s w hs T).mono ?_
  rintro e w1 ⟨rfl, d1, rfl⟩
  rw [hcut.out]
  go_wp2_with fail
  refine (lib_parse ⟨(sgnL sg ++ Lib.decDigits n).toArray⟩ _ (by rw [str_size]; simp; omega) (T.drewN d1)).mono ?_
  rintro e w2 ⟨hr, hb2⟩
  have hr2 : e = .returned (.tuple #[.int .i64 v, .nilIface]) := by
    rcases hr with ⟨v', h1, h2⟩ | ⟨h1, -⟩
    · have h1' : Lib.parseIntB 64 (sgnL sg ++ Lib.decDigits n) = .ok v' := h1
      rw [hp.out] at h1'
      cases h1'
      exact h2
    · exact absurd hp.out (h1 v)
  subst hr2
  have B2 : Hid (Below w.heap.size w w2) := (below_drewN (Below.refl w.heap.size w) d1).trans hb2
  have T2 : Hid (RTab w2) := T.below B2.out (Nat.le_refl _)
  clear hr hb2 T
  go_wp2_with fail
  refine (lib_atoi ⟨(Lib.itoa ((c : Int) - 1074)).toArray⟩ w2 (by rw [str_size]; omega) T2.out).mono ?_
  rintro e w3 ⟨hr, hb3⟩
  have hr2 : e = .returned (.tuple #[.int .i64 ((c : Int) - 1074), .nilIface]) := by
    rcases hr with ⟨v', h1, h2⟩ | ⟨h1, -⟩
    · have h1' : Lib.atoiAll (Lib.itoa ((c : Int) - 1074)) = .ok v' := h1
      rw [ha.out] at h1'
      cases h1'
      exact h2
    · exact absurd ha.out (h1 _)
  subst hr2
  have B3 : Hid (Below w.heap.size w w3) := B2.out.trans (hb3.mono B2.out.size)
  clear hr hb3
  go_wp2_with fail
  refine (times_fin _ m0 k0 n c sg w3 F1.out.1 F1.out.2 e3 F.out.2.2.2.1 e5).mono ?_
  rintro e w4 ⟨z, m, k, rfl, hz, hzv, rfl⟩
  have HZ : Hid (Num z sg m k ∧ m * 2 ^ k = n * 2 ^ c) := ⟨hz, hzv⟩
  clear hz hzv
  go_wp2_with fail
  go_ret
  exact scan_of (txt_fin F.out HZ.out.1 HZ.out.2) B3.out

set_option maxHeartbeats 800000 in
theorem scan_zero (w : World) (T : RTab w) : Calls Tryd.prog 78 #[.string ⟨#[48]⟩] w (ScanOf [48] w) := by
  have hcut : Hid (Lib.cut [48] [42, 50, 94] = ([48], [], false)) := (by decide +kernel : Lib.cut [48] [42, 50, 94] = ([48], [], false))
  go_enter Tryd.func78, Tryd.ntmps78
  go_wp2_with fail
  refine (lib_cut ⟨#[48]⟩ w (by decide) T).mono ?_
  rintro e w1 ⟨rfl, d1, rfl⟩
  rw [show (⟨#[48]⟩ : ByteArray).data.toList = [48] from rfl, hcut.out]
  go_wp2_with fail
  refine (lib_parse ⟨#[48]⟩ _ (by decide) (T.drewN d1)).mono ?_
  rintro e w2 ⟨hr, hb2⟩
  have hr2 : e = .returned (.tuple #[.int .i64 0, .nilIface]) := by
    have h0 : Lib.parseIntB 64 (⟨#[48]⟩ : ByteArray).data.toList = .ok 0 := by decide +kernel
    rcases hr with ⟨v', h1, h2⟩ | ⟨h1, -⟩
    · rw [h0] at h1
      cases h1
      exact h2
    · exact absurd h0 (h1 _)
  subst hr2
  have B2 : Hid (Below w.heap.size w w2) := (below_drewN (Below.refl w.heap.size w) d1).trans hb2
  have T2 : Hid (RTab w2) := T.below B2.out (Nat.le_refl _)
  clear hr hb2 T
  go_wp2_with fail
  refine (lib_atoi ⟨#[]⟩ w2 (by decide) T2.out).mono ?_
  rintro e w3 ⟨hr, hb3⟩
  have hr2 : ∃ v t p, e = .returned (.tuple #[.int .i64 v, .iface t (.pointer p)]) := by
    rcases hr with ⟨v', h1, h2⟩ | ⟨-, h2⟩
    · have h0 : ∀ v, Lib.atoiAll (⟨#[]⟩ : ByteArray).data.toList ≠ .ok v := by intro v hv; cases hv
      exact absurd h1 (h0 _)
    · exact h2
  obtain ⟨v, t, p, rfl⟩ := hr2
  have B3 : Hid (Below w.heap.size w w3) := B2.out.trans (hb3.mono B2.out.size)
  clear hr hb3
  go_wp2_with fail
  go_ret
  exact scan_of (Or.inr (Or.inr (Or.inl ⟨false, 0, num_zero, rfl⟩))) B3.out

set_option maxHeartbeats 1000000 in
theorem scan_none (s : ByteArray) (w : World) (hs : s.size ≤ 1000) (T : RTab w) (N : NoWord s) (hn : ∀ y, ¬ Txt y s.data.toList) :
    Calls Tryd.prog 78 #[.string s] w (ScanOf s.data.toList w) := by
  obtain ⟨a, b, cc, d⟩ := N
  have HN : Hid (∀ y, ¬ Txt y s.data.toList) := hn
  obtain ⟨z1, z2⟩ := cut_sizes s.data.toList (by rw [toListLen]; exact hs)
  obtain ⟨t1, ht1⟩ : ∃ t : ByteArray, t = ⟨(Lib.cut s.data.toList [42, 50, 94]).1.toArray⟩ := ⟨_, rfl⟩
  obtain ⟨t2, ht2⟩ : ∃ t : ByteArray, t = ⟨(Lib.cut s.data.toList [42, 50, 94]).2.1.toArray⟩ := ⟨_, rfl⟩
  have H1 : Hid ((⟨(Lib.cut s.data.toList [42, 50, 94]).1.toArray⟩ : ByteArray) = t1) := ht1.symm
  have H2 : Hid ((⟨(Lib.cut s.data.toList [42, 50, 94]).2.1.toArray⟩ : ByteArray) = t2) := ht2.symm
  rw [← ht1] at z1
  rw [← ht2] at z2
  clear hn ht1 ht2
  go_enter Tryd.func78, Tryd.ntmps78
  go_wp2_with fail
  refine (lib_cut s w hs T).mono ?_
  rintro e w1 ⟨rfl, d1, rfl⟩
  rw [H1.out, H2.out]
  go_wp2_with fail
  refine (lib_parse t1 _ z1 (T.drewN d1)).mono ?_
  rintro e w2 ⟨hr, hb2⟩
  have B2 : Hid (Below w.heap.size w w2) := (below_drewN (Below.refl w.heap.size w) d1).trans hb2
  have T2 : Hid (RTab w2) := T.below B2.out (Nat.le_refl _)
  clear hb2 T
  rcases hr with ⟨v, -, rfl⟩ | ⟨-, v, ty, p, rfl⟩
  · go_wp2_with fail
    refine (lib_atoi t2 w2 z2 T2.out).mono ?_
    rintro e w3 ⟨hr, hb3⟩
    have B3 : Hid (Below w.heap.size w w3) := B2.out.trans (hb3.mono B2.out.size)
    clear hb3
    rcases hr with ⟨u, -, rfl⟩ | ⟨-, u, ty, p, rfl⟩
    · by_cases hu : -1074 ≤ u ∧ u ≤ 1023
      · obtain ⟨hu1, hu2⟩ := hu
        go_wp2_with fail
        refine (times_any _ u w3 hu1 hu2).mono ?_
        rintro e w4 ⟨z, dd, rfl, rfl⟩
        go_wp2_with fail
        go_ret
        exact ⟨_, rfl, fun y hy => absurd hy (HN.out y), below_drewN B3.out dd⟩
      · by_cases hu1 : u < -1074
        · go_wp2_with fail
          go_ret
          exact ⟨_, rfl, fun y hy => absurd hy (HN.out y), B3.out⟩
        · have hu2 : 1023 < u := by omega
          go_wp2_with fail
          go_ret
          exact ⟨_, rfl, fun y hy => absurd hy (HN.out y), B3.out⟩
    · go_wp2_with fail
      go_ret
      exact ⟨_, rfl, fun y hy => absurd hy (HN.out y), B3.out⟩
  · go_wp2_with fail
    refine (lib_atoi t2 w2 z2 T2.out).mono ?_
    rintro e w3 ⟨hr, hb3⟩
    have B3 : Hid (Below w.heap.size w w3) := B2.out.trans (hb3.mono B2.out.size)
    clear hb3
    rcases hr with ⟨u, -, rfl⟩ | ⟨-, u, ty2, p2, rfl⟩
    · go_wp2_with fail
      go_ret
      exact ⟨_, rfl, fun y hy => absurd hy (HN.out y), B3.out⟩
    · go_wp2_with fail
      go_ret
      exact ⟨_, rfl, fun y hy => absurd hy (HN.out y), B3.out⟩

theorem scan_any (s : ByteArray) (w : World) (hs : s.size ≤ 1000) (T : RTab w) : Calls Tryd.prog 78 #[.string s] w (ScanOf s.data.toList w) := by
  have eqs : ∀ {l : List UInt8}, s.data.toList = l → s = ⟨l.toArray⟩ := by rintro l rfl; rfl
  have ne : ∀ {l : List UInt8}, s.data.toList ≠ l → (s.toList == l) = false := by
    intro l h
    rw [ByteArray.toList_eq]
    simpa using h
  by_cases h1 : s.data.toList = [110, 97, 110]
  · exact scan_words s w (Or.inl (eqs h1))
  by_cases h2 : s.data.toList = [105, 110, 102]
  · exact scan_words s w (Or.inr (Or.inl (eqs h2)))
  by_cases h3 : s.data.toList = [45, 105, 110, 102]
  · exact scan_words s w (Or.inr (Or.inr (Or.inl (eqs h3))))
  by_cases h4 : s.data.toList = [45, 48]
  · exact scan_words s w (Or.inr (Or.inr (Or.inr (eqs h4))))
  by_cases h5 : s.data.toList = [48]
  · have e := eqs h5
    subst e
    exact scan_zero w T
  have N : NoWord s := ⟨ne h1, ne h2, ne h3, ne h4⟩
  by_cases hf : ∃ sg n c, FinT s.data.toList sg n c
  · obtain ⟨sg, n, c, hf⟩ := hf
    exact scan_fin s w hs T N sg n c hf
  · refine scan_none s w hs T N ?_
    rintro y (⟨-, e⟩ | ⟨t, -, e⟩ | ⟨t, k, -, e⟩ | ⟨t, m, k, n, c, a1, a2, a3, a4, e⟩)
    · exact h1 e
    · cases t
      · exact h2 e
      · exact h3 e
    · cases t
      · exact h5 e
      · exact h4 e
    · exact hf ⟨t, n, c, by rw [e]; exact fin_of a1 a3 a4⟩

theorem same_symm {x y : Nat} (h : Same x y) : Same y x := by
  rcases h with ⟨a, b⟩ | ⟨s, a, b⟩ | ⟨s, m, k, m', k', a, b, e⟩
  · exact Or.inl ⟨b, a⟩
  · exact Or.inr (Or.inl ⟨s, b, a⟩)
  · exact Or.inr (Or.inr ⟨s, m', k', m, k, b, a, e.symm⟩)

/-- What a reading leaves: the word of the text, or nothing. -/
def ReadOf (l : List UInt8) (w : World) (e : Ending) (w' : World) : Prop :=
  ((∃ z, e = .returned (.tuple #[.float .f64 z, .bool true]) ∧ Txt z l) ∨ (e = .returned (.tuple #[.float .f64 0, .bool false]) ∧ ∀ z, ¬ Txt z l)) ∧ Below w.heap.size w w'

set_option maxHeartbeats 400000 in
theorem impl_read (s : ByteArray) (w : World) (hs : s.size ≤ 1000) (T : RTab w) : Calls Tryd.prog 29 #[.string s] w (ReadOf s.data.toList w) := by
  go_enter Tryd.func29, Tryd.ntmps29
  go_wp2_with fail
  refine (scan_any s w hs T).mono ?_
  rintro e w1 ⟨z, rfl, hz, hb1⟩
  have B1 : Hid (Below w.heap.size w w1) := hb1
  have HZ : Hid (∀ y, Txt y s.data.toList → Same z y) := hz
  have T1 : Hid (RTab w1) := T.below hb1 (Nat.le_refl _)
  clear hb1 hz T
  go_wp2_with fail
  refine (text_any z w1 T1.out).mono ?_
  rintro e w2 ⟨l, rfl, hl, -, hb2⟩
  have B2 : Hid (Below w.heap.size w w2) := B1.out.trans (hb2.mono B1.out.size)
  have HL : Hid (Txt z l) := hl
  clear hb2 hl
  by_cases he : l = s.data.toList
  · have e1 : ((⟨l.toArray⟩ : ByteArray).toList == s.toList) = true := by rw [ByteArray.toList_mk, ByteArray.toList_eq, he]; simp
    have e2 : (l == s.toList) = true := by rw [ByteArray.toList_eq, he]; simp
    have e3 : (l != s.toList) = false := by rw [ByteArray.toList_eq, he]; simp
    go_wp2_with fail
    go_ret2
    exact ⟨Or.inl ⟨z, rfl, by rw [← he]; exact HL.out⟩, B2.out⟩
  · have e2 : (l == s.toList) = false := by rw [ByteArray.toList_eq]; simpa using he
    have e3 : (l != s.toList) = true := by rw [ByteArray.toList_eq]; simpa using he
    have HE : Hid (l ≠ s.data.toList) := he
    clear he
    go_wp2_with fail
    go_ret2
    exact ⟨Or.inr ⟨rfl, fun y hy => HE.out (txt_fun HL.out (txt_of_same (same_symm (HZ.out y hy)) hy))⟩, B2.out⟩

end Go.Proofs.YtdhoimjkgicneaaDoor
