/- The specification's reading of a real number: any text, its sign and its words. -/
import Derived.Test.YtdhoimjkgicneaaDoorTxtO
import Derived.Test.YtdhoimjkgicneaaDoorTxtI
namespace Go.Proofs.YtdhoimjkgicneaaDoor
open Go Go.RowKit

theorem nan_ofR {x : Nat} (h : 9218868437227405312 < x % 9223372036854775808) : ∃ s t, Ieee.double.read x = .nan s t := by
  have h1 : ¬ x % 9223372036854775808 < 4503599627370496 := by omega
  have h2 : ¬ x % 9223372036854775808 < 9218868437227405312 := by omega
  have h3 : ¬ x % 9223372036854775808 = 9218868437227405312 := by omega
  exact ⟨x / 9223372036854775808 % 2 == 1, x % 9223372036854775808 - 9218868437227405312, by simp [Ieee.Format.read, d_sw, d_bin, d_inf, h1, h2, h3]⟩

theorem nan_gotR (w : World) : ∃ s t, Ieee.double.read (fGot .quo 0 0 w) = .nan s t := by
  have e : fGot .quo 0 0 w = (Question.nanBits .f64 0 0).cut (w.tape w.drawn (.nanBits .f64 0 0)) := by
    unfold fGot
    rw [show floatBits .quo .f64 0 0 = none from by decide +kernel]
  obtain ⟨t, ht⟩ : ∃ t, t = w.tape w.drawn (.nanBits .f64 0 0) := ⟨_, rfl⟩
  rw [e, ← ht]
  refine nan_ofR ?_
  simp only [Question.cut]
  obtain ⟨c, hc⟩ : ∃ c, t / 2 % (2 ^ 52 - 1) = c := ⟨_, rfl⟩
  have hc2 : c ≤ 4503599627370494 := by rw [← hc]; exact Nat.le_of_lt_succ (Nat.mod_lt _ (by decide))
  rw [hc]
  have h2 : t % 2 = 0 ∨ t % 2 = 1 := by omega
  rcases h2 with h2 | h2 <;> rw [h2] <;> omega

theorem txt_ne {z : Nat} {l : List UInt8} (h : Txt z l) : l ≠ [] := by
  rcases h with ⟨-, rfl⟩ | ⟨s, -, rfl⟩ | ⟨s, k, -, rfl⟩ | ⟨s, m, k, n, c, -, -, -, -, rfl⟩
  · simp
  · simp
  · simp
  · intro e
    have := finL_len s n c
    rw [e] at this
    simp at this

theorem read_yes {l : List UInt8} {w w' : World} {z : Nat} (h : Txt z l) (hb : Below w.heap.size w w') : ReadOf l w (.returned (.tuple #[.float .f64 z, .bool true])) w' := ⟨Or.inl ⟨z, rfl, h⟩, hb⟩
theorem read_no {l : List UInt8} {w w' : World} (h : ∀ z, ¬ Txt z l) (hb : Below w.heap.size w w') : ReadOf l w (.returned (.tuple #[.float .f64 0, .bool false])) w' := ⟨Or.inr ⟨rfl, h⟩, hb⟩

set_option maxHeartbeats 400000 in
theorem sread_words (s : ByteArray) (w : World) (h : s = ⟨#[110, 97, 110]⟩ ∨ s = ⟨#[105, 110, 102]⟩ ∨ s = ⟨#[45, 105, 110, 102]⟩ ∨ s = ⟨#[48]⟩ ∨ s = ⟨#[45, 48]⟩ ∨ s = ⟨#[]⟩) :
    Calls Tryd.prog 32 #[.string s] w (ReadOf s.data.toList w) := by
  have neg : ∀ b, Op.unary .neg (.float .f64 b) = pure (.float .f64 (Op.negFloat .f64 b)) := fun _ => rfl
  rcases h with rfl | rfl | rfl | rfl | rfl | rfl
  · go_enter Tryd.func32, Tryd.ntmps32
    go_wp2_with fail
    refine (nan_any w).mono ?_
    rintro e w1 ⟨y, rfl, hy, rfl⟩
    have HY : Hid (y = fGot .quo 0 0 w) := hy
    clear hy
    go_wp2_with fail
    go_ret2
    exact read_yes (Or.inl ⟨by rw [HY.out]; exact nan_gotR w, rfl⟩) (below_drewN (Below.refl _ _) 1)
  · go_enter Tryd.func32, Tryd.ntmps32
    go_wp2_with fail
    refine (inf_any w).mono ?_
    rintro e w1 ⟨rfl, rfl⟩
    go_wp2_with fail
    go_ret2
    exact read_yes (Or.inr (Or.inl ⟨false, by decide +kernel, rfl⟩)) (Below.refl _ _)
  · go_enter Tryd.func32, Tryd.ntmps32
    go_wp2_with fail
    refine (inf_any w).mono ?_
    rintro e w1 ⟨rfl, rfl⟩
    go_wp2_with fail
    go_ret2
    exact read_yes (Or.inr (Or.inl ⟨true, by rw [read_neg]; decide +kernel, rfl⟩)) (Below.refl _ _)
  · go_enter Tryd.func32, Tryd.ntmps32
    go_wp2_with fail
    go_ret2
    exact read_yes (Or.inr (Or.inr (Or.inl ⟨false, 0, num_zero, rfl⟩))) (Below.refl _ _)
  · go_enter Tryd.func32, Tryd.ntmps32
    go_wp2_with fail
    go_ret2
    exact read_yes (Or.inr (Or.inr (Or.inl ⟨true, 0, num_zero.neg, rfl⟩))) (Below.refl _ _)
  · go_enter Tryd.func32, Tryd.ntmps32
    go_wp2_with fail
    go_ret2
    exact read_no (fun z hz => txt_ne hz rfl) (Below.refl _ _)

/-- None of the words. -/
structure NoWordS (s : ByteArray) : Prop where
  a : (s.toList == [110, 97, 110]) = false
  b : (s.toList == [105, 110, 102]) = false
  c : (s.toList == [45, 105, 110, 102]) = false
  d : (s.toList == [48]) = false
  e : (s.toList == [45, 48]) = false
  f : (s.toList == []) = false

theorem NoWordS.ne {s : ByteArray} (h : NoWordS s) : s.data.toList ≠ [110, 97, 110] ∧ s.data.toList ≠ [105, 110, 102] ∧ s.data.toList ≠ [45, 105, 110, 102] ∧ s.data.toList ≠ [48] ∧ s.data.toList ≠ [45, 48] ∧ s.data.toList ≠ [] := by
  obtain ⟨a, b, c, d, e, f⟩ := h
  rw [ByteArray.toList_eq] at a b c d e f
  exact ⟨by simpa using a, by simpa using b, by simpa using c, by simpa using d, by simpa using e, by simpa using f⟩

/-- A text that is none of the words and some number's is a number's that is not nought. -/
theorem txt_rest {s : ByteArray} (N : NoWordS s) {z : Nat} (h : Txt z s.data.toList) : ∃ g n c, FinT s.data.toList g n c := by
  obtain ⟨h1, h2, h3, h4, h5, h6⟩ := N.ne
  rcases h with ⟨-, e⟩ | ⟨t, -, e⟩ | ⟨t, k, -, e⟩ | ⟨t, m, k, n, c, a1, a2, a3, a4, e⟩
  · exact absurd e h1
  · cases t
    · exact absurd e h2
    · exact absurd e h3
  · cases t
    · exact absurd e h4
    · exact absurd e h5
  · exact ⟨t, n, c, by rw [e]; exact fin_of a1 a3 a4⟩

set_option maxHeartbeats 800000 in
theorem sread_plain (s : ByteArray) (w : World) (hs : s.size ≤ 1000) (N : NoWordS s) (hp : 0 < s.size) (hm : ((s[0].toNat : Int) == 45) = false) (hh : s.data.toList.head? ≠ some 45) :
    Calls Tryd.prog 32 #[.string s] w (ReadOf s.data.toList w) := by
  have NN : Hid (NoWordS s) := N
  have HH : Hid (s.data.toList.head? ≠ some 45) := hh
  obtain ⟨a, b, c, d, e, f⟩ := N
  clear hh
  go_enter Tryd.func32, Tryd.ntmps32
  go_wp2_with fail
  refine (l2_read s w hs).mono ?_
  rintro e w1 ⟨hr, rfl⟩
  rcases hr with ⟨z, n, c, m, k, rfl, hf, hn, hv⟩ | ⟨⟨z, rfl⟩, hno⟩
  · have H : Hid (Txt z s.data.toList) := txt_fin hf hn hv
    clear hf hn hv
    go_wp2_with fail
    go_ret2
    exact read_yes H.out (Below.refl _ _)
  · have H : Hid (∀ z, ¬ Txt z s.data.toList) := by
      intro y hy
      obtain ⟨g, n, c, hf⟩ := txt_rest NN.out hy
      cases g
      · exact hno n c hf
      · apply HH.out
        rw [hf.1]; rfl
    clear hno
    go_wp2_with fail
    go_ret2
    exact read_no H.out (Below.refl _ _)

set_option maxHeartbeats 800000 in
theorem sread_minus (s t : ByteArray) (w : World) (hs : s.size ≤ 1000) (N : NoWordS s) (hp : 0 < s.size) (hm : ((s[0].toNat : Int) == 45) = true) (hx : s.extract 1 s.size = t) (hst : s.data.toList = 45 :: t.data.toList) :
    Calls Tryd.prog 32 #[.string s] w (ReadOf s.data.toList w) := by
  have neg : ∀ b, Op.unary .neg (.float .f64 b) = pure (.float .f64 (Op.negFloat .f64 b)) := fun _ => rfl
  have NN : Hid (NoWordS s) := N
  have HS : Hid (s.data.toList = 45 :: t.data.toList) := hst
  have ht : t.size ≤ 1000 := by
    have h1 := toList_lenT s
    have h2 := toList_lenT t
    rw [hst] at h1
    simp at h1
    omega
  obtain ⟨a, b, c, d, e, f⟩ := N
  clear hst
  go_enter Tryd.func32, Tryd.ntmps32
  go_wp2_with fail
  refine (l2_read t w ht).mono ?_
  rintro e w1 ⟨hr, rfl⟩
  rcases hr with ⟨z, n, c, m, k, rfl, hf, hn, hv⟩ | ⟨⟨z, rfl⟩, hno⟩
  · have H : Hid (Txt (Op.negFloat .f64 z) s.data.toList) := by
      obtain ⟨e1, e2, e3, e4, e5⟩ := hf
      have hF : FinT s.data.toList true n c := ⟨by rw [HS.out, e1]; rfl, e2, e3, e4, e5⟩
      exact txt_fin hF hn.neg hv
    clear hf hn hv
    go_wp2_with fail
    go_ret2
    exact read_yes H.out (Below.refl _ _)
  · have H : Hid (∀ z, ¬ Txt z s.data.toList) := by
      intro y hy
      obtain ⟨g, n, c, hf⟩ := txt_rest NN.out hy
      obtain ⟨e1, e2, e3, e4, e5⟩ := hf
      rw [HS.out] at e1
      cases g
      · obtain ⟨x, xs, hx, dx⟩ := dd_head n
        simp only [finL, sgnL, Bool.false_eq_true, if_false, List.nil_append, hx, List.cons_append] at e1
        rw [← (List.cons.inj e1).1] at dx
        exact absurd dx (by decide)
      · refine hno n c ⟨?_, e2, e3, e4, e5⟩
        have : finL true n c = 45 :: finL false n c := rfl
        rw [this] at e1
        exact (List.cons.inj e1).2
    clear hno
    go_wp2_with fail
    go_ret2
    exact read_no H.out (Below.refl _ _)

theorem spec_rread (s : ByteArray) (w : World) (hs : s.size ≤ 1000) : Calls Tryd.prog 32 #[.string s] w (ReadOf s.data.toList w) := by
  have eqs : ∀ {l : List UInt8}, s.data.toList = l → s = ⟨l.toArray⟩ := by rintro l rfl; rfl
  have ne : ∀ {l : List UInt8}, s.data.toList ≠ l → (s.toList == l) = false := by
    intro l h
    rw [ByteArray.toList_eq]
    simpa using h
  by_cases h1 : s.data.toList = [110, 97, 110]
  · exact sread_words s w (Or.inl (eqs h1))
  by_cases h2 : s.data.toList = [105, 110, 102]
  · exact sread_words s w (Or.inr (Or.inl (eqs h2)))
  by_cases h3 : s.data.toList = [45, 105, 110, 102]
  · exact sread_words s w (Or.inr (Or.inr (Or.inl (eqs h3))))
  by_cases h4 : s.data.toList = [48]
  · exact sread_words s w (Or.inr (Or.inr (Or.inr (Or.inl (eqs h4)))))
  by_cases h5 : s.data.toList = [45, 48]
  · exact sread_words s w (Or.inr (Or.inr (Or.inr (Or.inr (Or.inl (eqs h5))))))
  by_cases h6 : s.data.toList = []
  · exact sread_words s w (Or.inr (Or.inr (Or.inr (Or.inr (Or.inr (eqs h6))))))
  have N : NoWordS s := ⟨ne h1, ne h2, ne h3, ne h4, ne h5, ne h6⟩
  have hp : 0 < s.size := by
    rw [← toList_lenT]
    exact List.length_pos_iff.2 h6
  have hd := head_getT s hp
  by_cases hh : s.data.toList.head? = some 45
  · rw [hd] at hh
    have h45 : s[0] = 45 := Option.some.inj hh
    refine sread_minus s (s.extract 1 s.size) w hs N hp (by rw [h45]; decide) rfl ?_
    rw [ext_list, List.take_of_length_le (by rw [toList_lenT]; omega)]
    cases hl : s.data.toList with
    | nil => exact absurd hl h6
    | cons c cs =>
      rw [hl, h45] at hd
      simp at hd
      simp [hd]
  · refine sread_plain s w hs N hp ?_ hh
    rw [beq_eq_false_iff_ne]
    intro h
    apply hh
    rw [hd]
    congr 1
    apply UInt8.toNat_inj.1
    show s[0].toNat = 45
    omega

end Go.Proofs.YtdhoimjkgicneaaDoor
