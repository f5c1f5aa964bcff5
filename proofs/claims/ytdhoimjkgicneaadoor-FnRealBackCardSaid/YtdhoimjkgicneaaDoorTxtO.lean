/- The specification's reading of a real number: any text. -/
import Derived.Test.YtdhoimjkgicneaaDoorTxtN
namespace Go.Proofs.YtdhoimjkgicneaaDoor
open Go Go.RowKit

/-- Both sides of the star are numbers that a text has. -/
def Sides (s : ByteArray) (i : Nat) : Prop := ∃ N c : Nat, 1 ≤ N ∧ N < 9007199254740992 ∧ N % 2 = 1 ∧ c ≤ 2097 ∧ (s.extract 0 i).data.toList = Lib.itoa N ∧ (s.extract (i + 3) s.size).data.toList = Lib.itoa ((c : Int) - 1074)

theorem sides_of {s : ByteArray} {i n c : Nat} (hi : fndS s.data.toList = some i) (h : FinT s.data.toList false n c) : Sides s i ∧ i + 4 ≤ s.size ∧ (s.extract i (i + 3)).toList = [42, 50, 94] := by
  obtain ⟨p1, p2, p3, p4, p5⟩ := fin_parts h
  rw [hi] at p1
  obtain rfl := Option.some.inj p1
  have hl := toList_lenT s
  refine ⟨⟨n, c, ?_, h.2.2.1, h.2.1, ?_, ?_, ?_⟩, by omega, ?_⟩
  · have := h.2.1; omega
  · have := h.2.2.2.2; omega
  · rw [ext_list, List.drop_zero]; exact p2
  · rw [ext_list, List.take_of_length_le (by omega)]; exact p4
  · rw [ByteArray.toList_eq, ext_list, List.drop_take]
    rw [show (Lib.decDigits n).length + 3 - (Lib.decDigits n).length = 3 by omega]
    exact p3

theorem fndSZ_some {l : List UInt8} {i : Nat} (h : fndS l = some i) : fndSZ l = i := by unfold fndSZ; rw [h]
theorem fndSZ_none {l : List UInt8} (h : fndS l = none) : fndSZ l = -1 := by unfold fndSZ; rw [h]

set_option maxHeartbeats 400000 in
theorem l2_none (s : ByteArray) (w : World) (hs : s.size ≤ 1000) (h : fndS s.data.toList = none) : Calls Tryd.prog 82 #[.string s] w (L2Of s.data.toList w) := by
  have HN : Hid (∀ n c, ¬ FinT s.data.toList false n c) := fun n c hf => by have := (fin_parts hf).1; rw [h] at this; cases this
  have HZ : Hid (fndSZ s.data.toList = -1) := fndSZ_none h
  clear h
  go_enter Tryd.func82, Tryd.ntmps82
  go_wp2_with fail
  refine (find_star s w hs).mono ?_
  rintro e w1 ⟨rfl, rfl⟩
  rw [HZ.out]
  go_wp2_with fail
  go_ret2
  exact l2_no HN.out

set_option maxHeartbeats 400000 in
theorem l2_short (s : ByteArray) (w : World) (hs : s.size ≤ 1000) (i : Nat) (h : fndS s.data.toList = some i) (h4 : s.size < i + 4) : Calls Tryd.prog 82 #[.string s] w (L2Of s.data.toList w) := by
  have HN : Hid (∀ n c, ¬ FinT s.data.toList false n c) := fun n c hf => by have := (sides_of h hf).2.1; omega
  have HZ : Hid (fndSZ s.data.toList = i) := fndSZ_some h
  have hi := fndS_lt h
  rw [toList_lenT] at hi
  have i0 : decide ((i : Int) < 0) = false := by simp
  have i4 : decide ((s.size : Int) < (i : Int) + 4) = true := by simp; omega
  clear h
  go_enter Tryd.func82, Tryd.ntmps82
  go_wp2_with fail
  refine (find_star s w hs).mono ?_
  rintro e w1 ⟨rfl, rfl⟩
  rw [HZ.out]
  go_wp2_with fail
  go_ret2
  exact l2_no HN.out

set_option maxHeartbeats 400000 in
theorem l2_other (s : ByteArray) (w : World) (hs : s.size ≤ 1000) (i : Nat) (h : fndS s.data.toList = some i) (h4 : i + 4 ≤ s.size) (hx : ((s.extract i (i + 3)).toList == [42, 50, 94]) = false) : Calls Tryd.prog 82 #[.string s] w (L2Of s.data.toList w) := by
  have HN : Hid (∀ n c, ¬ FinT s.data.toList false n c) := fun n c hf => by have := (sides_of h hf).2.2; rw [this] at hx; revert hx; decide
  have HZ : Hid (fndSZ s.data.toList = i) := fndSZ_some h
  have i0 : decide ((i : Int) < 0) = false := by simp
  have i4 : decide ((s.size : Int) < (i : Int) + 4) = false := by simp; omega
  clear h
  go_enter Tryd.func82, Tryd.ntmps82
  go_wp2_with fail
  refine (find_star s w hs).mono ?_
  rintro e w1 ⟨rfl, rfl⟩
  rw [HZ.out]
  go_wp2_with fail
  go_ret2
  exact l2_no HN.out

set_option maxHeartbeats 2000000 in
theorem l2_bad (s : ByteArray) (w : World) (hs : s.size ≤ 1000) (i : Nat) (h : fndS s.data.toList = some i) (h4 : i + 4 ≤ s.size) (hx : ((s.extract i (i + 3)).toList == [42, 50, 94]) = true) (hp : ¬ Sides s i) : Calls Tryd.prog 82 #[.string s] w (L2Of s.data.toList w) := by
  have HN : Hid (∀ n c, ¬ FinT s.data.toList false n c) := fun n c hf => hp (sides_of h hf).1
  have HP : Hid (¬ Sides s i) := hp
  have HZ : Hid (fndSZ s.data.toList = i) := fndSZ_some h
  have i0 : decide ((i : Int) < 0) = false := by simp
  have i4 : decide ((s.size : Int) < (i : Int) + 4) = false := by simp; omega
  clear h hp
  go_enter Tryd.func82, Tryd.ntmps82
  go_wp2_with fail
  refine (find_star s w hs).mono ?_
  rintro e w1 ⟨rfl, rfl⟩
  rw [HZ.out]
  go_wp2_with fail
  refine (num_all (s.extract 0 i) w1 (by simp; omega)).mono ?_
  rintro e w2 ⟨hA, rfl⟩
  rcases hA with ⟨v, rfl, hA, -⟩ | ⟨rfl, -⟩
  · have HA : Hid ((s.extract 0 i).data.toList = Lib.itoa v) := hA
    clear hA
    go_wp2_with fail
    refine (num_all (s.extract (i + 3) s.size) w2 (by simp; omega)).mono ?_
    rintro e w3 ⟨hB, rfl⟩
    rcases hB with ⟨u, rfl, hB, -⟩ | ⟨rfl, -⟩
    · have HB : Hid ((s.extract (i + 3) s.size).data.toList = Lib.itoa u) := hB
      clear hB
      by_cases c1 : v < 1
      · go_wp2_with fail
        go_ret2
        exact l2_no HN.out
      · obtain ⟨N, rfl⟩ : ∃ N : Nat, v = N := ⟨v.toNat, by omega⟩
        by_cases c2 : 9007199254740991 < (N : Int)
        · go_wp2_with fail
          go_ret2
          exact l2_no HN.out
        · cases c3 : (N : Int) % 2 == 0 with
          | true =>
            go_wp2_with fail
            go_ret2
            exact l2_no HN.out
          | false =>
            by_cases c4 : u < -1074
            · go_wp2_with fail
              go_ret2
              exact l2_no HN.out
            · by_cases c5 : 1023 < u
              · go_wp2_with fail
                go_ret2
                exact l2_no HN.out
              · exfalso
                refine HP.out ⟨N, (u + 1074).toNat, by omega, by omega, ?_, by omega, HA.out, ?_⟩
                · simp at c3; omega
                · rw [HB.out]; congr 1; omega
    · go_wp2_with fail
      go_ret2
      exact l2_no HN.out
  · go_wp2_with fail
    refine (num_all (s.extract (i + 3) s.size) w2 (by simp; omega)).mono ?_
    rintro e w3 ⟨hB, rfl⟩
    rcases hB with ⟨u, rfl, hB, -⟩ | ⟨rfl, -⟩
    · clear hB
      go_wp2_with fail
      go_ret2
      exact l2_no HN.out
    · go_wp2_with fail
      go_ret2
      exact l2_no HN.out

theorem l2_read (s : ByteArray) (w : World) (hs : s.size ≤ 1000) : Calls Tryd.prog 82 #[.string s] w (L2Of s.data.toList w) := by
  cases h : fndS s.data.toList with
  | none => exact l2_none s w hs h
  | some i =>
    by_cases h4 : s.size < i + 4
    · exact l2_short s w hs i h h4
    · cases hx : (s.extract i (i + 3)).toList == [42, 50, 94] with
      | false => exact l2_other s w hs i h (by omega) hx
      | true =>
        by_cases hp : Sides s i
        · obtain ⟨N, c, n1, n2, n3, c1, a, b⟩ := hp
          have hx2 : (s.data.toList.drop i).take 3 = [42, 50, 94] := by
            have e : (s.extract i (i + 3)).toList = [42, 50, 94] := by simpa using hx
            rw [ByteArray.toList_eq, ext_list, List.drop_take, show i + 3 - i = 3 by omega] at e
            exact e
          have hl := toList_lenT s
          have ha : s.data.toList.take i = Lib.itoa N := by rw [ext_list, List.drop_zero] at a; exact a
          have hb : s.data.toList.drop (i + 3) = Lib.itoa ((c : Int) - 1074) := by rw [ext_list, List.take_of_length_le (by omega)] at b; exact b
          have hm := fin_make hx2 ha hb (by omega) (by omega)
          refine l2_good s w hs i N c (fndSZ_some h) (by omega) hx n1 n2 n3 c1 a b ?_
          rw [hm]
          congr 1
          omega
        · exact l2_bad s w hs i h (by omega) hx hp

end Go.Proofs.YtdhoimjkgicneaaDoor
