/- Texts of this proof laid together: TxtO, TxtP, MrF. -/
import Derived.Test.YtdhoimjkgicneaaGreatDoorLot31
import Derived.Test.YtdhoimjkgicneaaGreatDoorLot23
/- The specification's reading of a real number: any text. -/
namespace Go.Proofs.YtdhoimjkgicneaaGreatDoor
open Go Go.RowKit

/-- Both sides of the star are numbers that a text has. -/
def Sides (s : ByteArray) (i : Nat) : Prop := ∃ N c : Nat, 1 ≤ N ∧ N < 9007199254740992 ∧ N % 2 = 1 ∧ c ≤ 2097 ∧ (s.extract 0 i).data.toList = Lib.itoa N ∧ (s.extract (i + 3) s.size).data.toList = Lib.itoa ((c : Int) - 1074)

theorem sides_of {s : ByteArray} {i n c : Nat} (hi : fndS s.data.toList = some i) (h : FinT s.data.toList false n c) : Sides s i ∧ i + 4 ≤ s.size ∧ (s.extract i (i + 3)).toList = [42, 50, 94] := by
  obtain ⟨p1, p2, p3, p4, p5⟩ := fin_parts h
  rw [hi] at p1
  obtain rfl := Option.some.inj p1
  have hl := toList_lenT s
  refine ⟨⟨n, c, ?_, h.2.2.1, h.2.1, ?_, ?_, ?_⟩, by omega, ?_⟩
  · have := h.2.1; omega
  · have := h.2.2.2.2; omega
  · rw [ext_list, List.drop_zero]; exact p2
  · rw [ext_list, List.take_of_length_le (by omega)]; exact p4
  · rw [ByteArray.toList_eq, ext_list, List.drop_take]
    rw [show (Lib.decDigits n).length + 3 - (Lib.decDigits n).length = 3 by omega]
    exact p3

theorem fndSZ_some {l : List UInt8} {i : Nat} (h : fndS l = some i) : fndSZ l = i := by unfold fndSZ; rw [h]
theorem fndSZ_none {l : List UInt8} (h : fndS l = none) : fndSZ l = -1 := by unfold fndSZ; rw [h]

set_option maxHeartbeats 400000 in
theorem l2_none (s : ByteArray) (w : World) (hs : s.size ≤ 6000) (h : fndS s.data.toList = none) : Calls Tryz.prog 131 #[.string s] w (L2Of s.data.toList w) := by
  have HN : Hid (∀ n c, ¬ FinT s.data.toList false n c) := fun n c hf => by have := (fin_parts hf).1; rw [h] at this; cases this
  have HZ : Hid (fndSZ s.data.toList = -1) := fndSZ_none h
  clear h
  go_enter Tryz.func131, Tryz.ntmps131
  go_wp2_with fail
  refine (find_star s w hs).mono ?_
  rintro e w1 ⟨rfl, rfl⟩
  rw [HZ.out]
  go_wp2_with fail
  go_ret2
  exact l2_no HN.out

set_option maxHeartbeats 400000 in
theorem l2_short (s : ByteArray) (w : World) (hs : s.size ≤ 6000) (i : Nat) (h : fndS s.data.toList = some i) (h4 : s.size < i + 4) : Calls Tryz.prog 131 #[.string s] w (L2Of s.data.toList w) := by
  have HN : Hid (∀ n c, ¬ FinT s.data.toList false n c) := fun n c hf => by have := (sides_of h hf).2.1; omega
  have HZ : Hid (fndSZ s.data.toList = i) := fndSZ_some h
  have hi := fndS_lt h
  rw [toList_lenT] at hi
  have i0 : decide ((i : Int) < 0) = false := by simp
  have i4 : decide ((s.size : Int) < (i : Int) + 4) = true := by simp; omega
  clear h
  go_enter Tryz.func131, Tryz.ntmps131
  go_wp2_with fail
  refine (find_star s w hs).mono ?_
  rintro e w1 ⟨rfl, rfl⟩
  rw [HZ.out]
  go_wp2_with fail
  go_ret2
  exact l2_no HN.out

set_option maxHeartbeats 400000 in
theorem l2_other (s : ByteArray) (w : World) (hs : s.size ≤ 6000) (i : Nat) (h : fndS s.data.toList = some i) (h4 : i + 4 ≤ s.size) (hx : ((s.extract i (i + 3)).toList == [42, 50, 94]) = false) : Calls Tryz.prog 131 #[.string s] w (L2Of s.data.toList w) := by
  have HN : Hid (∀ n c, ¬ FinT s.data.toList false n c) := fun n c hf => by have := (sides_of h hf).2.2; rw [this] at hx; revert hx; decide
  have HZ : Hid (fndSZ s.data.toList = i) := fndSZ_some h
  have i0 : decide ((i : Int) < 0) = false := by simp
  have i4 : decide ((s.size : Int) < (i : Int) + 4) = false := by simp; omega
  clear h
  go_enter Tryz.func131, Tryz.ntmps131
  go_wp2_with fail
  refine (find_star s w hs).mono ?_
  rintro e w1 ⟨rfl, rfl⟩
  rw [HZ.out]
  go_wp2_with fail
  go_ret2
  exact l2_no HN.out

set_option maxHeartbeats 2000000 in
theorem l2_bad (s : ByteArray) (w : World) (hs : s.size ≤ 6000) (i : Nat) (h : fndS s.data.toList = some i) (h4 : i + 4 ≤ s.size) (hx : ((s.extract i (i + 3)).toList == [42, 50, 94]) = true) (hp : ¬ Sides s i) : Calls Tryz.prog 131 #[.string s] w (L2Of s.data.toList w) := by
  have HN : Hid (∀ n c, ¬ FinT s.data.toList false n c) := fun n c hf => hp (sides_of h hf).1
  have HP : Hid (¬ Sides s i) := hp
  have HZ : Hid (fndSZ s.data.toList = i) := fndSZ_some h
  have i0 : decide ((i : Int) < 0) = false := by simp
  have i4 : decide ((s.size : Int) < (i : Int) + 4) = false := by simp; omega
  clear h hp
  go_enter Tryz.func131, Tryz.ntmps131
  go_wp2_with fail
  refine (find_star s w hs).mono ?_
  rintro e w1 ⟨rfl, rfl⟩
  rw [HZ.out]
  go_wp2_with fail
  refine (num_all (s.extract 0 i) w1 (by simp; omega)).mono ?_
  rintro e w2 ⟨hA, rfl⟩
  rcases hA with ⟨v, rfl, hA, -⟩ | ⟨rfl, -⟩
  · have HA : Hid ((s.extract 0 i).data.toList = Lib.itoa v) := hA
    clear hA
    go_wp2_with fail
    refine (num_all (s.extract (i + 3) s.size) w2 (by simp; omega)).mono ?_
    rintro e w3 ⟨hB, rfl⟩
    rcases hB with ⟨u, rfl, hB, -⟩ | ⟨rfl, -⟩
    · have HB : Hid ((s.extract (i + 3) s.size).data.toList = Lib.itoa u) := hB
      clear hB
      by_cases c1 : v < 1
      · go_wp2_with fail
        go_ret2
        exact l2_no HN.out
      · obtain ⟨N, rfl⟩ : ∃ N : Nat, v = N := ⟨v.toNat, by omega⟩
        by_cases c2 : 9007199254740991 < (N : Int)
        · go_wp2_with fail
          go_ret2
          exact l2_no HN.out
        · cases c3 : (N : Int) % 2 == 0 with
          | true =>
            go_wp2_with fail
            go_ret2
            exact l2_no HN.out
          | false =>
            by_cases c4 : u < -1074
            · go_wp2_with fail
              go_ret2
              exact l2_no HN.out
            · by_cases c5 : 1023 < u
              · go_wp2_with fail
                go_ret2
                exact l2_no HN.out
              · exfalso
                refine HP.out ⟨N, (u + 1074).toNat, by omega, by omega, ?_, by omega, HA.out, ?_⟩
                · simp at c3; omega
                · rw [HB.out]; congr 1; omega
    · go_wp2_with fail
      go_ret2
      exact l2_no HN.out
  · go_wp2_with fail
    refine (num_all (s.extract (i + 3) s.size) w2 (by simp; omega)).mono ?_
    rintro e w3 ⟨hB, rfl⟩
    rcases hB with ⟨u, rfl, hB, -⟩ | ⟨rfl, -⟩
    · clear hB
      go_wp2_with fail
      go_ret2
      exact l2_no HN.out
    · go_wp2_with fail
      go_ret2
      exact l2_no HN.out

theorem l2_read (s : ByteArray) (w : World) (hs : s.size ≤ 6000) : Calls Tryz.prog 131 #[.string s] w (L2Of s.data.toList w) := by
  cases h : fndS s.data.toList with
  | none => exact l2_none s w hs h
  | some i =>
    by_cases h4 : s.size < i + 4
    · exact l2_short s w hs i h h4
    · cases hx : (s.extract i (i + 3)).toList == [42, 50, 94] with
      | false => exact l2_other s w hs i h (by omega) hx
      | true =>
        by_cases hp : Sides s i
        · obtain ⟨N, c, n1, n2, n3, c1, a, b⟩ := hp
          have hx2 : (s.data.toList.drop i).take 3 = [42, 50, 94] := by
            have e : (s.extract i (i + 3)).toList = [42, 50, 94] := by simpa using hx
            rw [ByteArray.toList_eq, ext_list, List.drop_take, show i + 3 - i = 3 by omega] at e
            exact e
          have hl := toList_lenT s
          have ha : s.data.toList.take i = Lib.itoa N := by rw [ext_list, List.drop_zero] at a; exact a
          have hb : s.data.toList.drop (i + 3) = Lib.itoa ((c : Int) - 1074) := by rw [ext_list, List.take_of_length_le (by omega)] at b; exact b
          have hm := fin_make hx2 ha hb (by omega) (by omega)
          refine l2_good s w hs i N c (fndSZ_some h) (by omega) hx n1 n2 n3 c1 a b ?_
          rw [hm]
          congr 1
          omega
        · exact l2_bad s w hs i h (by omega) hx hp

end Go.Proofs.YtdhoimjkgicneaaGreatDoor

/- The specification's reading of a real number: any text, its sign and its words. -/
namespace Go.Proofs.YtdhoimjkgicneaaGreatDoor
open Go Go.RowKit

theorem nan_ofR {x : Nat} (h : 9218868437227405312 < x % 9223372036854775808) : ∃ s t, Ieee.double.read x = .nan s t := by
  have h1 : ¬ x % 9223372036854775808 < 4503599627370496 := by omega
  have h2 : ¬ x % 9223372036854775808 < 9218868437227405312 := by omega
  have h3 : ¬ x % 9223372036854775808 = 9218868437227405312 := by omega
  exact ⟨x / 9223372036854775808 % 2 == 1, x % 9223372036854775808 - 9218868437227405312, by simp [Ieee.Format.read, d_sw, d_bin, d_inf, h1, h2, h3]⟩

theorem nan_gotR (w : World) : ∃ s t, Ieee.double.read (fGot .quo 0 0 w) = .nan s t := by
  have e : fGot .quo 0 0 w = (Question.nanBits .f64 0 0).cut (w.tape w.drawn (.nanBits .f64 0 0)) := by
    unfold fGot
    rw [show floatBits .quo .f64 0 0 = none from by decide +kernel]
  obtain ⟨t, ht⟩ : ∃ t, t = w.tape w.drawn (.nanBits .f64 0 0) := ⟨_, rfl⟩
  rw [e, ← ht]
  refine nan_ofR ?_
  simp only [Question.cut]
  obtain ⟨c, hc⟩ : ∃ c, t / 2 % (2 ^ 52 - 1) = c := ⟨_, rfl⟩
  have hc2 : c ≤ 4503599627370494 := by rw [← hc]; exact Nat.le_of_lt_succ (Nat.mod_lt _ (by decide))
  rw [hc]
  have h2 : t % 2 = 0 ∨ t % 2 = 1 := by omega
  rcases h2 with h2 | h2 <;> rw [h2] <;> omega

theorem txt_ne {z : Nat} {l : List UInt8} (h : Txt z l) : l ≠ [] := by
  rcases h with ⟨-, rfl⟩ | ⟨s, -, rfl⟩ | ⟨s, k, -, rfl⟩ | ⟨s, m, k, n, c, -, -, -, -, rfl⟩
  · simp
  · simp
  · simp
  · intro e
    have := finL_len s n c
    rw [e] at this
    simp at this

theorem read_yes {l : List UInt8} {w w' : World} {z : Nat} (h : Txt z l) (hz : z < 18446744073709551616) (hb : Below w.heap.size w w') : ReadOf l w (.returned (.tuple #[.float .f64 z, .bool true])) w' := ⟨Or.inl ⟨z, rfl, h, hz⟩, hb⟩
theorem read_no {l : List UInt8} {w w' : World} (h : ∀ z, ¬ Txt z l) (hb : Below w.heap.size w w') : ReadOf l w (.returned (.tuple #[.float .f64 0, .bool false])) w' := ⟨Or.inr ⟨rfl, h⟩, hb⟩

set_option maxHeartbeats 400000 in
theorem sread_words (s : ByteArray) (w : World) (h : s = ⟨#[110, 97, 110]⟩ ∨ s = ⟨#[105, 110, 102]⟩ ∨ s = ⟨#[45, 105, 110, 102]⟩ ∨ s = ⟨#[48]⟩ ∨ s = ⟨#[45, 48]⟩ ∨ s = ⟨#[]⟩) :
    Calls Tryz.prog 95 #[.string s] w (ReadOf s.data.toList w) := by
  have neg : ∀ b, Op.unary .neg (.float .f64 b) = pure (.float .f64 (Op.negFloat .f64 b)) := fun _ => rfl
  rcases h with rfl | rfl | rfl | rfl | rfl | rfl
  · go_enter Tryz.func95, Tryz.ntmps95
    go_wp2_with fail
    refine (nan_any w).mono ?_
    rintro e w1 ⟨y, rfl, hy, rfl⟩
    have HY : Hid (y = fGot .quo 0 0 w) := hy
    clear hy
    go_wp2_with fail
    go_ret2
    exact read_yes (Or.inl ⟨by rw [HY.out]; exact nan_gotR w, rfl⟩) (by rw [HY.out]; exact got_lt _ _ _ _) (below_drewN (Below.refl _ _) 1)
  · go_enter Tryz.func95, Tryz.ntmps95
    go_wp2_with fail
    refine (inf_any w).mono ?_
    rintro e w1 ⟨rfl, rfl⟩
    go_wp2_with fail
    go_ret2
    exact read_yes (Or.inr (Or.inl ⟨false, by decide +kernel, rfl⟩)) (by decide) (Below.refl _ _)
  · go_enter Tryz.func95, Tryz.ntmps95
    go_wp2_with fail
    refine (inf_any w).mono ?_
    rintro e w1 ⟨rfl, rfl⟩
    go_wp2_with fail
    go_ret2
    exact read_yes (Or.inr (Or.inl ⟨true, by rw [read_neg]; decide +kernel, rfl⟩)) (neg_lt (by decide)) (Below.refl _ _)
  · go_enter Tryz.func95, Tryz.ntmps95
    go_wp2_with fail
    go_ret2
    exact read_yes (Or.inr (Or.inr (Or.inl ⟨false, 0, num_zero, rfl⟩))) (by decide) (Below.refl _ _)
  · go_enter Tryz.func95, Tryz.ntmps95
    go_wp2_with fail
    go_ret2
    exact read_yes (Or.inr (Or.inr (Or.inl ⟨true, 0, num_zero.neg, rfl⟩))) (neg_lt (by decide)) (Below.refl _ _)
  · go_enter Tryz.func95, Tryz.ntmps95
    go_wp2_with fail
    go_ret2
    exact read_no (fun z hz => txt_ne hz rfl) (Below.refl _ _)

/-- None of the words. -/
structure NoWordS (s : ByteArray) : Prop where
  a : (s.toList == [110, 97, 110]) = false
  b : (s.toList == [105, 110, 102]) = false
  c : (s.toList == [45, 105, 110, 102]) = false
  d : (s.toList == [48]) = false
  e : (s.toList == [45, 48]) = false
  f : (s.toList == []) = false

theorem NoWordS.ne {s : ByteArray} (h : NoWordS s) : s.data.toList ≠ [110, 97, 110] ∧ s.data.toList ≠ [105, 110, 102] ∧ s.data.toList ≠ [45, 105, 110, 102] ∧ s.data.toList ≠ [48] ∧ s.data.toList ≠ [45, 48] ∧ s.data.toList ≠ [] := by
  obtain ⟨a, b, c, d, e, f⟩ := h
  rw [ByteArray.toList_eq] at a b c d e f
  exact ⟨by simpa using a, by simpa using b, by simpa using c, by simpa using d, by simpa using e, by simpa using f⟩

/-- A text that is none of the words and some number's is a number's that is not nought. -/
theorem txt_rest {s : ByteArray} (N : NoWordS s) {z : Nat} (h : Txt z s.data.toList) : ∃ g n c, FinT s.data.toList g n c := by
  obtain ⟨h1, h2, h3, h4, h5, h6⟩ := N.ne
  rcases h with ⟨-, e⟩ | ⟨t, -, e⟩ | ⟨t, k, -, e⟩ | ⟨t, m, k, n, c, a1, a2, a3, a4, e⟩
  · exact absurd e h1
  · cases t
    · exact absurd e h2
    · exact absurd e h3
  · cases t
    · exact absurd e h4
    · exact absurd e h5
  · exact ⟨t, n, c, by rw [e]; exact fin_of a1 a3 a4⟩

set_option maxHeartbeats 800000 in
theorem sread_plain (s : ByteArray) (w : World) (hs : s.size ≤ 6000) (N : NoWordS s) (hp : 0 < s.size) (hm : ((s[0].toNat : Int) == 45) = false) (hh : s.data.toList.head? ≠ some 45) :
    Calls Tryz.prog 95 #[.string s] w (ReadOf s.data.toList w) := by
  have NN : Hid (NoWordS s) := N
  have HH : Hid (s.data.toList.head? ≠ some 45) := hh
  obtain ⟨a, b, c, d, e, f⟩ := N
  clear hh
  go_enter Tryz.func95, Tryz.ntmps95
  go_wp2_with fail
  refine (l2_read s w hs).mono ?_
  rintro e w1 ⟨hr, rfl⟩
  rcases hr with ⟨z, n, c, m, k, rfl, hf, hn, hv⟩ | ⟨⟨z, rfl⟩, hno⟩
  · have H : Hid (Txt z s.data.toList ∧ z < 18446744073709551616) := ⟨txt_fin hf hn.1 hv, hn.2⟩
    clear hf hn hv
    go_wp2_with fail
    go_ret2
    exact read_yes H.out.1 H.out.2 (Below.refl _ _)
  · have H : Hid (∀ z, ¬ Txt z s.data.toList) := by
      intro y hy
      obtain ⟨g, n, c, hf⟩ := txt_rest NN.out hy
      cases g
      · exact hno n c hf
      · apply HH.out
        rw [hf.1]; rfl
    clear hno
    go_wp2_with fail
    go_ret2
    exact read_no H.out (Below.refl _ _)

set_option maxHeartbeats 800000 in
theorem sread_minus (s t : ByteArray) (w : World) (hs : s.size ≤ 6000) (N : NoWordS s) (hp : 0 < s.size) (hm : ((s[0].toNat : Int) == 45) = true) (hx : s.extract 1 s.size = t) (hst : s.data.toList = 45 :: t.data.toList) :
    Calls Tryz.prog 95 #[.string s] w (ReadOf s.data.toList w) := by
  have neg : ∀ b, Op.unary .neg (.float .f64 b) = pure (.float .f64 (Op.negFloat .f64 b)) := fun _ => rfl
  have NN : Hid (NoWordS s) := N
  have HS : Hid (s.data.toList = 45 :: t.data.toList) := hst
  have ht : t.size ≤ 6000 := by
    have h1 := toList_lenT s
    have h2 := toList_lenT t
    rw [hst] at h1
    simp at h1
    omega
  obtain ⟨a, b, c, d, e, f⟩ := N
  clear hst
  go_enter Tryz.func95, Tryz.ntmps95
  go_wp2_with fail
  refine (l2_read t w ht).mono ?_
  rintro e w1 ⟨hr, rfl⟩
  rcases hr with ⟨z, n, c, m, k, rfl, hf, hn, hv⟩ | ⟨⟨z, rfl⟩, hno⟩
  · have H : Hid (Txt (Op.negFloat .f64 z) s.data.toList ∧ Op.negFloat .f64 z < 18446744073709551616) := by
      obtain ⟨e1, e2, e3, e4, e5⟩ := hf
      have hF : FinT s.data.toList true n c := ⟨by rw [HS.out, e1]; rfl, e2, e3, e4, e5⟩
      exact ⟨txt_fin hF hn.1.neg hv, neg_lt hn.2⟩
    clear hf hn hv
    go_wp2_with fail
    go_ret2
    exact read_yes H.out.1 H.out.2 (Below.refl _ _)
  · have H : Hid (∀ z, ¬ Txt z s.data.toList) := by
      intro y hy
      obtain ⟨g, n, c, hf⟩ := txt_rest NN.out hy
      obtain ⟨e1, e2, e3, e4, e5⟩ := hf
      rw [HS.out] at e1
      cases g
      · obtain ⟨x, xs, hx, dx⟩ := dd_head n
        simp only [finL, sgnL, Bool.false_eq_true, if_false, List.nil_append, hx, List.cons_append] at e1
        rw [← (List.cons.inj e1).1] at dx
        exact absurd dx (by decide)
      · refine hno n c ⟨?_, e2, e3, e4, e5⟩
        have : finL true n c = 45 :: finL false n c := rfl
        rw [this] at e1
        exact (List.cons.inj e1).2
    clear hno
    go_wp2_with fail
    go_ret2
    exact read_no H.out (Below.refl _ _)

theorem spec_rread (s : ByteArray) (w : World) (hs : s.size ≤ 6000) : Calls Tryz.prog 95 #[.string s] w (ReadOf s.data.toList w) := by
  have eqs : ∀ {l : List UInt8}, s.data.toList = l → s = ⟨l.toArray⟩ := by rintro l rfl; rfl
  have ne : ∀ {l : List UInt8}, s.data.toList ≠ l → (s.toList == l) = false := by
    intro l h
    rw [ByteArray.toList_eq]
    simpa using h
  by_cases h1 : s.data.toList = [110, 97, 110]
  · exact sread_words s w (Or.inl (eqs h1))
  by_cases h2 : s.data.toList = [105, 110, 102]
  · exact sread_words s w (Or.inr (Or.inl (eqs h2)))
  by_cases h3 : s.data.toList = [45, 105, 110, 102]
  · exact sread_words s w (Or.inr (Or.inr (Or.inl (eqs h3))))
  by_cases h4 : s.data.toList = [48]
  · exact sread_words s w (Or.inr (Or.inr (Or.inr (Or.inl (eqs h4)))))
  by_cases h5 : s.data.toList = [45, 48]
  · exact sread_words s w (Or.inr (Or.inr (Or.inr (Or.inr (Or.inl (eqs h5))))))
  by_cases h6 : s.data.toList = []
  · exact sread_words s w (Or.inr (Or.inr (Or.inr (Or.inr (Or.inr (eqs h6))))))
  have N : NoWordS s := ⟨ne h1, ne h2, ne h3, ne h4, ne h5, ne h6⟩
  have hp : 0 < s.size := by
    rw [← toList_lenT]
    exact List.length_pos_iff.2 h6
  have hd := head_getT s hp
  by_cases hh : s.data.toList.head? = some 45
  · rw [hd] at hh
    have h45 : s[0] = 45 := Option.some.inj hh
    refine sread_minus s (s.extract 1 s.size) w hs N hp (by rw [h45]; decide) rfl ?_
    rw [ext_list, List.take_of_length_le (by rw [toList_lenT]; omega)]
    cases hl : s.data.toList with
    | nil => exact absurd hl h6
    | cons c cs =>
      rw [hl, h45] at hd
      simp at hd
      simp [hd]
  · refine sread_plain s w hs N hp ?_ hh
    rw [beq_eq_false_iff_ne]
    intro h
    apply hh
    rw [hd]
    congr 1
    apply UInt8.toNat_inj.1
    show s[0].toNat = 45
    omega

end Go.Proofs.YtdhoimjkgicneaaGreatDoor

/- The specification's help: where a sign of equality is, what the last mark is. -/
namespace Go.Proofs.YtdhoimjkgicneaaGreatDoor
open Go Go.RowKit

/-- The place of the sign of equality. -/
def fndE : List UInt8 → Option Nat
  | [] => none
  | c :: cs => if c = 61 then some 0 else (fndE cs).map (· + 1)
def fndEZ (l : List UInt8) : Int := match fndE l with | none => -1 | some k => k

theorem fndE_none : ∀ {a : List UInt8}, (61 : UInt8) ∉ a → fndE a = none
  | [], _ => rfl
  | c :: cs, h => by
    have h1 : ¬ c = 61 := fun e => h (by simp [e])
    have h2 : (61 : UInt8) ∉ cs := fun e => h (by simp [e])
    rw [fndE, if_neg h1, fndE_none h2]
    rfl
theorem fndE_at : ∀ {a r : List UInt8}, (61 : UInt8) ∉ a → fndE (a ++ 61 :: r) = some a.length
  | [], _, _ => by simp [fndE]
  | c :: cs, r, h => by
    have h1 : ¬ c = 61 := fun e => h (by simp [e])
    have h2 : (61 : UInt8) ∉ cs := fun e => h (by simp [e])
    rw [List.cons_append, fndE, if_neg h1, fndE_at h2]
    rfl

set_option maxHeartbeats 400000 in
theorem find_eqZ (s : ByteArray) (w : World) (hs : s.size ≤ 6000) :
    Calls Tryz.prog 54 #[.string s, .int .u8 61] w fun e w' => e = .returned (.int .i64 (fndEZ s.data.toList)) ∧ w' = w := by
  have HL : Hid (s.data.toList.length = s.size) := toList_lenT s
  go_enter Tryz.func54, Tryz.ntmps54
  go_wp2
  go_loop [5] (fun i => ∃ k : Nat, k ≤ s.size ∧ i = .int .i64 k ∧ fndE s.data.toList = (fndE (s.data.toList.drop k)).map (· + k)) (fun i => s.size - (intOf i).toNat)
  case atStart => exact ⟨0, Nat.zero_le _, rfl, by simp⟩
  case round =>
    obtain ⟨k, hk, rfl, hf⟩ := hrel
    have HF : Hid (fndE s.data.toList = (fndE (s.data.toList.drop k)).map (· + k)) := hf
    clear hf
    by_cases hlt : k < s.size
    · cases hc : (s[k].toNat : Int) == 61 with
      | true =>
        have HC : Hid (s[k] = 61) := by
          apply UInt8.toNat_inj.1
          simp at hc
          show s[k].toNat = 61
          omega
        go_wp2
        go_ret
        refine ⟨ret_intT ?_, rfl⟩
        rw [fndEZ, HF.out, drop_consT s k hlt, fndE, if_pos HC.out]
        simp
      | false =>
        have HC : Hid (s[k] ≠ 61) := by
          intro e; rw [e] at hc; revert hc; decide
        have HD : Hid (fndE s.data.toList = (fndE (s.data.toList.drop (k + 1))).map (· + (k + 1))) := by
          show fndE s.data.toList = _
          rw [HF.out, drop_consT s k hlt, fndE, if_neg HC.out]
          cases fndE (s.data.toList.drop (k + 1)) with
          | none => rfl
          | some d => simp; omega
        go_wp2
        go_round
        case rel => exact ⟨k + 1, by omega, by go_num, HD.out⟩
        case measure => simp [intOf]; omega
    · go_wp2
      go_ret
      refine ⟨ret_intT ?_, rfl⟩
      rw [fndEZ, HF.out, List.drop_of_length_le (by have := HL.out; omega)]
      rfl

/-- Where the sign is. -/
theorem find_eq (s : ByteArray) (w : World) (hs : s.size ≤ 6000) :
    Calls Tryz.prog 54 #[.string s, .int .u8 61] w fun e w' => ∃ i : Int, e = .returned (.int .i64 i) ∧ w' = w ∧ ((i = -1 ∧ (61 : UInt8) ∉ s.data.toList) ∨ ∃ a r, s.data.toList = a ++ 61 :: r ∧ (61 : UInt8) ∉ a ∧ i = a.length) := by
  refine (find_eqZ s w hs).mono ?_
  rintro e w' ⟨rfl, rfl⟩
  refine ⟨_, rfl, rfl, ?_⟩
  rcases cases_eq s.data.toList with h | ⟨a, r, e, h⟩
  · exact Or.inl ⟨by rw [fndEZ, fndE_none h], h⟩
  · exact Or.inr ⟨a, r, e, h, by rw [fndEZ, e, fndE_at h]⟩

theorem last_of (s : ByteArray) (h : 0 < s.size) : s.data.toList.getLast? = some s[s.size - 1] := by
  have hl : s.data.toList.length = s.size := by rw [Array.length_toList]; rfl
  rw [List.getLast?_eq_getElem?, hl, List.getElem?_eq_getElem (by omega)]
  rfl

set_option maxHeartbeats 400000 in
theorem spec_tail (s : ByteArray) (c : UInt8) (w : World) (hs : s.size ≤ 6000) :
    Calls Tryz.prog 97 #[.string s, .int .u8 (c.toNat : Int)] w fun e w' => e = .returned (.tuple #[.string ⟨(Lib.trimSuffix s.data.toList [c]).toArray⟩, .bool (Lib.hasSuffix s.data.toList [c])]) ∧ w' = w := by
  by_cases h0 : s.size = 0
  · have hn : s.data.toList = [] := List.length_eq_zero_iff.1 (by rw [Array.length_toList]; exact h0)
    have H : Hid (Lib.hasSuffix s.data.toList [c] = false ∧ (⟨(Lib.trimSuffix s.data.toList [c]).toArray⟩ : ByteArray) = s) := by
      have := suf_no (l := s.data.toList) (c := c) (by rw [hn]; simp)
      refine ⟨this.1, ?_⟩
      rw [this.2]
    clear hn
    go_enter Tryz.func97, Tryz.ntmps97
    go_wp2_with fail
    go_ret2
    exact ⟨by rw [H.out.1, H.out.2]; rfl, rfl⟩
  · have hp : 0 < s.size := by omega
    have hla := last_of s hp
    cases hc : (s[s.size - 1].toNat : Int) == (c.toNat : Int) with
    | true =>
      have he : s[s.size - 1] = c := UInt8.toNat_inj.1 (by have := hc; simp at this; omega)
      obtain ⟨a, ha⟩ : ∃ a, s.data.toList = a ++ [c] := by
        obtain ⟨ys, hy⟩ := List.getLast?_eq_some_iff.1 (hla.trans (congrArg some he))
        exact ⟨ys, hy⟩
      have H : Hid (Lib.hasSuffix s.data.toList [c] = true ∧ (⟨(Lib.trimSuffix s.data.toList [c]).toArray⟩ : ByteArray) = s.extract 0 (s.size - 1)) := by
        obtain ⟨g1, g2⟩ := suf_yes a c
        refine ⟨by rw [ha]; exact g1, ?_⟩
        have hal : a.length = s.size - 1 := by
          have hl : s.data.toList.length = s.size := by rw [Array.length_toList]; rfl
          rw [ha] at hl
          simp at hl
          omega
        apply ByteArray.ext
        apply Array.toList_inj.1
        have e1 : (s.extract 0 (s.size - 1)).data.toList = s.data.toList.take (s.size - 1) := Lib.extract_from_zero s (s.size - 1)
        rw [e1, ha, g2, ← hal]
        simp
      clear he ha hla
      go_enter Tryz.func97, Tryz.ntmps97
      go_wp2_with fail
      go_ret2
      exact ⟨by rw [H.out.1, H.out.2]; rfl, rfl⟩
    | false =>
      have H : Hid (Lib.hasSuffix s.data.toList [c] = false ∧ (⟨(Lib.trimSuffix s.data.toList [c]).toArray⟩ : ByteArray) = s) := by
        have := suf_no (l := s.data.toList) (c := c) (by
          rw [hla]
          intro h
          rw [Option.some.inj h] at hc
          simp at hc)
        refine ⟨this.1, ?_⟩
        rw [this.2]
      clear hla
      go_enter Tryz.func97, Tryz.ntmps97
      go_wp2_with fail
      go_ret2
      exact ⟨by rw [H.out.1, H.out.2]; rfl, rfl⟩

end Go.Proofs.YtdhoimjkgicneaaGreatDoor
