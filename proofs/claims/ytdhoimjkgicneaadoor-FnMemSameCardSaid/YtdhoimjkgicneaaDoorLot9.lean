/- Texts of this proof laid together: FltG, RealD, DrA0. -/
import Derived.Test.YtdhoimjkgicneaaDoorLot7
import Derived.Test.YtdhoimjkgicneaaDoorLot4
import Derived.Test.YtdhoimjkgicneaaDoorLot8
import Derived.Test.YtdhoimjkgicneaaDoorLot6
import Derived.Test.YtdhoimjkgicneaaDoorLot2
/- The bits that operations on real numbers give fit 64 bits; two words of 64 bits that are the same number are the same word, or both nan. Of no one program. -/
namespace Go.Proofs.YtdhoimjkgicneaaDoor
open Go Ieee

theorem word_lt (s : Bool) {r : Nat} (h : r < 9223372036854775808) : double.word s r < 18446744073709551616 := by
  unfold Format.word
  rw [d_sw]
  split <;> omega
theorem nearest_lt (s : Bool) (m : Nat) (p : Int) : double.nearest s m p < 18446744073709551616 := by
  unfold Format.nearest
  split
  · exact word_lt s (by omega)
  · rw [d_inf]
    refine word_lt s ?_
    have := Nat.min_le_right (((max (p + m.log2 - double.fractionBits) double.leastPlace) - double.leastPlace).toNat * double.binade + Toward.even.cut s (m <<< (p - (max (p + m.log2 - double.fractionBits) double.leastPlace)).toNat) ((max (p + m.log2 - double.fractionBits) double.leastPlace) - p).toNat) 9218868437227405312
    omega
theorem write_lt (d : Datum) : double.write d < 18446744073709551616 := by
  cases d with
  | number s m p => exact nearest_lt s m p
  | infinity s => exact word_lt s (by rw [d_inf]; omega)
  | nan s t =>
    refine word_lt s ?_
    rw [d_inf, d_bin]
    omega
theorem map_lt {o : Option Datum} {r : Nat} (h : o.map double.write = some r) : r < 18446744073709551616 := by
  cases o with
  | none => cases h
  | some d => cases h; exact write_lt d
theorem bits_lt {op : BinOp} {x y r : Nat} (h : floatBits op .f64 x y = some r) : r < 18446744073709551616 := by
  unfold floatBits at h
  split at h
  · exact map_lt h
  · exact map_lt h
  · exact map_lt h
  · exact map_lt h
  · cases h
theorem got_lt (op : BinOp) (x y : Nat) (w : World) : fGot op x y w < 18446744073709551616 := by
  unfold fGot
  split
  · rename_i h
    exact bits_lt h
  · simp only [Question.cut]
    generalize w.tape w.drawn (.nanBits .f64 x y) = t
    obtain ⟨c, hc⟩ : ∃ c, t / 2 % (2 ^ 52 - 1) = c := ⟨_, rfl⟩
    have hc2 : c ≤ 4503599627370494 := by rw [← hc]; exact Nat.le_of_lt_succ (Nat.mod_lt _ (by decide))
    rw [hc]
    have h2 : t % 2 = 0 ∨ t % 2 = 1 := by omega
    rcases h2 with h2 | h2 <;> rw [h2] <;> omega
theorem foi_lt (n : Int) : floatOfInt .f64 n < 18446744073709551616 := nearest_lt _ _ _
theorem neg_lt {x : Nat} (h : x < 18446744073709551616) : Op.negFloat .f64 x < 18446744073709551616 :=
  Nat.xor_lt_two_pow (n := 64) h (show 2 ^ (11 + 52) < 2 ^ 64 by decide)

theorem num_word {x : Nat} {s : Bool} {m k : Nat} (h : Num x s m k) (hx : x < 18446744073709551616) : x = if s then 9223372036854775808 + (if m < 4503599627370496 then m else k * 4503599627370496 + m) else (if m < 4503599627370496 then m else k * 4503599627370496 + m) := by
  have hr := h.read
  obtain ⟨q, hq⟩ : ∃ q, q = x % 9223372036854775808 := ⟨_, rfl⟩
  have hs : ∀ b : Bool, (x / 9223372036854775808 % 2 == 1) = b → x = if b then 9223372036854775808 + q else q := by
    intro b hb
    cases b
    · simp at hb; simp; omega
    · simp at hb; simp; omega
  simp only [Format.read, d_sw, d_bin, d_lp, d_inf, ← hq] at hr
  split at hr
  · obtain ⟨e1, e2, e3⟩ := Datum.number.inj hr
    have h2 := hs s e1
    have e : (if m < 4503599627370496 then m else k * 4503599627370496 + m) = q := by
      rw [if_pos (by omega)]
      omega
    rw [e]
    exact h2
  · split at hr
    · obtain ⟨e1, e2, e3⟩ := Datum.number.inj hr
      have h2 := hs s e1
      have e : (if m < 4503599627370496 then m else k * 4503599627370496 + m) = q := by
        rw [if_neg (by omega)]
        omega
      rw [e]
      exact h2
    · split at hr <;> cases hr

theorem num_eq {m k m' k' : Nat} (h : k = 0 ∨ 4503599627370496 ≤ m) (g : k' = 0 ∨ 4503599627370496 ≤ m') (hm : m < 9007199254740992) (hm' : m' < 9007199254740992) (e : m * 2 ^ k = m' * 2 ^ k') : m = m' ∧ k = k' := by
  have key : ∀ {m k m' k' : Nat}, (k' = 0 ∨ 4503599627370496 ≤ m') → m < 9007199254740992 → m * 2 ^ k = m' * 2 ^ k' → k < k' → False := by
    intro m k m' k' g hm e hlt
    have e2 : m * 2 ^ k = m' * 2 ^ (k' - k) * 2 ^ k := by rw [e, Nat.mul_assoc, ← Nat.pow_add]; congr 2; omega
    have e3 := Nat.eq_of_mul_eq_mul_right (Nat.two_pow_pos k) e2
    have h2 : 2 ≤ 2 ^ (k' - k) := by
      have : 2 ^ 1 ≤ 2 ^ (k' - k) := Nat.pow_le_pow_right (by omega) (by omega)
      simpa using this
    have : m' * 2 ≤ m := by rw [e3]; exact Nat.mul_le_mul_left _ h2
    omega
  rcases Nat.lt_trichotomy k k' with hl | hl | hl
  · exact absurd (key g hm e hl) id
  · subst hl
    exact ⟨Nat.eq_of_mul_eq_mul_right (Nat.two_pow_pos k) e, rfl⟩
  · exact absurd (key h hm' e.symm hl) id

theorem inf_word {x : Nat} {s : Bool} (h : double.read x = .infinity s) (hx : x < 18446744073709551616) : x = if s then 18442240474082181120 else 9218868437227405312 := by
  simp only [Format.read, d_sw, d_bin, d_inf] at h
  split at h
  · cases h
  split at h
  · cases h
  split at h
  · rename_i e
    have e1 := Datum.infinity.inj h
    cases s
    · simp at e1; simp; omega
    · simp at e1; simp; omega
  · cases h

/-- The same number in 64 bits is the same word, or both are nan. -/
theorem same_word {x y : Nat} (hx : x < 18446744073709551616) (hy : y < 18446744073709551616) (h : Same x y) : x = y ∨ ((∃ s t, double.read x = .nan s t) ∧ ∃ s t, double.read y = .nan s t) := by
  rcases h with h | ⟨s, a, b⟩ | ⟨s, m, k, m', k', a, b, e⟩
  · exact Or.inr h
  · exact Or.inl (by rw [inf_word a hx, inf_word b hy])
  · obtain ⟨rfl, rfl⟩ := num_eq a.norm b.norm a.m53 b.m53 e
    exact Or.inl (by rw [num_word a hx, num_word b hy])
theorem same_refl (x : Nat) : Same x x := by
  rcases read_cases x with ⟨s, m, k, h⟩ | ⟨s, h⟩ | h
  · exact Or.inr (Or.inr ⟨s, m, k, m, k, h, h, rfl⟩)
  · exact Or.inr (Or.inl ⟨s, h, h⟩)
  · exact Or.inl ⟨h, h⟩

end Go.Proofs.YtdhoimjkgicneaaDoor

/- Drawn words of 64 bits and drawn real numbers, with their bounds: the draw ends, answers some bits, 64 of them, and turns nothing but the reader. -/
namespace Go.Proofs.YtdhoimjkgicneaaDoor
open Go Go.RowKit

set_option maxHeartbeats 400000 in
theorem word_all (R c : Nat) (w : World) (h : Rd R c w) (hc : c ≤ 900) :
    Calls Tryd.prog 116 #[.pointer (some ⟨R, 0, none⟩)] w fun e w' => ∃ z : Int, e = .returned (.int .u64 z) ∧ 0 ≤ z ∧ z < 18446744073709551616 ∧ Rd R (c + 8) w' ∧ Moved R w w' := by
  have wr64 : ∀ z : Int, 0 ≤ IntKind.u64.wrap z ∧ IntKind.u64.wrap z < 18446744073709551616 := by
    intro z
    rw [IntKind.wrap_u64]
    omega
  go_enter Tryd.func116, Tryd.ntmps116
  go_wp2
  go_loopw [3, 4] (fun x i wr => ∃ (z : Int) (k : Nat), k ≤ 8 ∧ x = .int .u64 z ∧ i = .int .i64 k ∧ 0 ≤ z ∧ z < 18446744073709551616 ∧ Rd R (c + k) wr ∧ Moved R w wr) (fun _ i _ => 8 - (intOf i).toNat)
  case atStart => exact ⟨0, 0, by omega, rfl, rfl, by omega, by omega, h, Moved.refl _ _⟩
  case round =>
    obtain ⟨z, k, hk, rfl, rfl, z0, z1, rd, mv⟩ := hrel
    have RD : Hid (Rd R (c + k) wr) := rd
    have MV : Hid (Moved R w wr) := mv
    have Z : Hid (0 ≤ z ∧ z < 18446744073709551616) := ⟨z0, z1⟩
    clear rd mv h z0 z1
    by_cases hlt : k < 8
    · go_wp2_with fail
      refine (pick_any R (c + k) 256 wr RD.out (by omega) (by omega)).mono ?_
      rintro e w2 ⟨x, rfl, x0, -, -, rd2, mv2⟩
      have RD2 : Hid (Rd R (c + k + 1) w2) := rd2
      have MV2 : Hid (Moved R w w2) := MV.out.trans mv2
      clear rd2 mv2
      go_wp2
      go_roundw
      case rel => exact ⟨_, k + 1, by omega, rfl, by go_num, (wr64 _).1, (wr64 _).2, RD2.out, MV2.out⟩
      case measure => simp [intOf]; omega
    · go_wp2
      go_ret
      have : k = 8 := by omega
      subst this
      exact ⟨_, rfl, Z.out.1, Z.out.2, RD.out, MV.out⟩

/-- What a draw of a real number leaves. -/
def DrawnB (R c : Nat) (w : World) (e : Ending) (w' : World) : Prop := ∃ x : Nat, e = .returned (.float .f64 x) ∧ x < 18446744073709551616 ∧ Rd R (c + 12) w' ∧ Moved R w w'

theorem drawnB_of {R c c' : Nat} {w w' : World} (x : Nat) (hx : x < 18446744073709551616) (rd : Rd R c' w') (mv : Moved R w w') (h : c' ≤ c + 12) : DrawnB R c w (.returned (.float .f64 x)) w' := ⟨x, rfl, hx, rd.mono h, mv⟩

theorem nan_all (w : World) : Calls Tryd.prog 80 #[] w fun e w' => ∃ y, e = .returned (.float .f64 y) ∧ y < 18446744073709551616 ∧ w' = w.drewN 1 := by
  refine (nan_any w).mono ?_
  rintro e w' ⟨x, he, hx, hw⟩
  exact ⟨x, he, by rw [hx]; exact got_lt _ _ _ _, hw⟩

set_option maxHeartbeats 2000000 in
theorem real_all (R c : Nat) (w : World) (h : Rd R c w) (hc : c ≤ 800) : Calls Tryd.prog 72 #[.pointer (some ⟨R, 0, none⟩)] w (DrawnB R c w) := by
  go_enter Tryd.func72, Tryd.ntmps72
  go_wp2_with fail
  refine (pick_any R c 16 w h (by omega) (by omega)).mono ?_
  rintro e w1 ⟨x, rfl, x0, x1, -, rd, mv⟩
  have hx : x < 16 := x1 (by omega)
  clear x1 h
  have neg : ∀ b, Op.unary .neg (.float .f64 b) = pure (.float .f64 (Op.negFloat .f64 b)) := fun _ => rfl
  have hxs : x = 0 ∨ x = 1 ∨ x = 2 ∨ x = 3 ∨ x = 4 ∨ x = 5 ∨ x = 6 ∨ x = 7 ∨ x = 8 ∨ x = 9 ∨ x = 10 ∨ x = 11 ∨ 12 ≤ x := by omega
  rcases hxs with rfl | rfl | rfl | rfl | rfl | rfl | rfl | rfl | rfl | rfl | rfl | rfl | h12
  · go_wp2_with fail
    refine (nan_all w1).mono ?_
    rintro e w2 ⟨y, rfl, hy, rfl⟩
    go_wp2
    go_ret
    exact drawnB_of _ (by first | decide | exact got_lt _ _ _ _ | exact foi_lt _ | exact neg_lt (by decide) | assumption) (rd.drewN 1) (mv.drewN 1) (by omega)
  · go_wp2_with fail
    refine (inf_any w1).mono ?_
    rintro e w2 ⟨rfl, rfl⟩
    go_wp2
    go_ret
    exact drawnB_of _ (by first | decide | exact got_lt _ _ _ _ | exact foi_lt _ | exact neg_lt (by decide) | assumption) rd mv (by omega)
  · go_wp2_with fail
    refine (inf_any w1).mono ?_
    rintro e w2 ⟨rfl, rfl⟩
    go_wp2
    go_ret
    exact drawnB_of _ (by first | decide | exact got_lt _ _ _ _ | exact foi_lt _ | exact neg_lt (by decide) | assumption) rd mv (by omega)
  · go_wp2
    go_ret
    exact drawnB_of _ (by first | decide | exact got_lt _ _ _ _ | exact foi_lt _ | exact neg_lt (by decide) | assumption) rd mv (by omega)
  · go_wp2
    go_ret
    exact drawnB_of _ (by first | decide | exact got_lt _ _ _ _ | exact foi_lt _ | exact neg_lt (by decide) | assumption) rd mv (by omega)
  · go_wp2_with fail
    refine (pick_any R (c + 1) 40 w1 rd (by omega) (by omega)).mono ?_
    rintro e w2 ⟨y, rfl, y0, y1, -, rd2, mv2⟩
    have hy : y < 40 := y1 (by omega)
    have q := mul_any Tryd.prog 1 (floatOfInt .f64 (1 + y))
    have MV : Hid (Moved R w w2) := mv.trans mv2
    have RD : Hid (Rd R (c + 1 + 1) w2) := rd2
    clear rd rd2 mv mv2 y1
    go_wp2
    go_ret
    exact drawnB_of _ (by first | decide | exact got_lt _ _ _ _ | exact foi_lt _ | exact neg_lt (by decide) | assumption) (RD.out.drewN _) (MV.out.drewN _) (by omega)
  · go_wp2
    go_ret
    exact drawnB_of _ (by first | decide | exact got_lt _ _ _ _ | exact foi_lt _ | exact neg_lt (by decide) | assumption) rd mv (by omega)
  · go_wp2
    go_ret
    exact drawnB_of _ (by first | decide | exact got_lt _ _ _ _ | exact foi_lt _ | exact neg_lt (by decide) | assumption) rd mv (by omega)
  · go_wp2_with fail
    refine (pick_any R (c + 1) 9 w1 rd (by omega) (by omega)).mono ?_
    rintro e w2 ⟨y, rfl, y0, y1, -, rd2, mv2⟩
    have hy : y < 9 := y1 (by omega)
    have q := mul_any Tryd.prog 1 (floatOfInt .f64 (y - 4))
    have q2 : ∀ b, _ := add_any Tryd.prog 4503599627370496
    have MV : Hid (Moved R w w2) := mv.trans mv2
    have RD : Hid (Rd R (c + 1 + 1) w2) := rd2
    clear rd rd2 mv mv2 y1
    go_wp2
    go_ret
    exact drawnB_of _ (by first | decide | exact got_lt _ _ _ _ | exact foi_lt _ | exact neg_lt (by decide) | assumption) (RD.out.drewN _) (MV.out.drewN _) (by omega)
  · go_wp2_with fail
    refine (word_any R (c + 1) w1 rd (by omega)).mono ?_
    rintro e w2 ⟨z, rfl, rd2, mv2⟩
    clear rd
    go_wp2_with fail
    refine (pick_any R (c + 1 + 8) 200 w2 rd2 (by omega) (by omega)).mono ?_
    rintro e w3 ⟨y, rfl, y0, y1, -, rd3, mv3⟩
    have hy : y < 200 := y1 (by omega)
    have q : ∀ a b, _ := quo_any Tryd.prog
    have MV : Hid (Moved R w w3) := (mv.trans mv2).trans mv3
    have RD : Hid (Rd R (c + 1 + 8 + 1) w3) := rd3
    clear rd2 rd3 mv mv2 mv3 y1
    go_wp2_with fail
    refine (pick_any R (c + 1 + 8 + 1) 100 _ (RD.out.drewN _) (by omega) (by omega)).mono ?_
    rintro e w4 ⟨u, rfl, u0, u1, -, rd4, mv4⟩
    have hu : u < 100 := u1 (by omega)
    have MV4 : Hid (Moved R w w4) := (MV.out.drewN _).trans mv4
    have RD4 : Hid (Rd R (c + 1 + 8 + 1 + 1) w4) := rd4
    clear rd4 mv4 u1 q
    go_wp2
    go_loopw [4, 5] (fun f i wr => ∃ (g : Nat) (k : Nat), k ≤ 100 ∧ f = .float .f64 g ∧ i = .int .i64 k ∧ g < 18446744073709551616 ∧ Rd R (c + 1 + 8 + 1 + 1) wr ∧ Moved R w wr) (fun _ i _ => (intOf i).toNat)
    case atStart => exact ⟨_, u.toNat, by omega, rfl, by rw [Int.toNat_of_nonneg u0], got_lt _ _ _ _, RD4.out, MV4.out⟩
    case round =>
      obtain ⟨g, k, hk, rfl, rfl, hg, rd, mv⟩ := hrel
      have RD : Hid (Rd R (c + 1 + 8 + 1 + 1) wr) := rd
      have MV : Hid (Moved R w wr) := mv
      clear rd mv
      by_cases hlt : 0 < k
      · have q := mul_any Tryd.prog g 4563638014722897556
        go_wp2
        go_roundw
        case rel => exact ⟨_, k - 1, by omega, rfl, by go_num, got_lt _ _ _ _, RD.out.drewN _, MV.out.drewN _⟩
        case measure => simp [intOf]; omega
      · go_wp2
        go_ret
        exact drawnB_of _ (by first | decide | exact got_lt _ _ _ _ | exact foi_lt _ | exact neg_lt (by decide) | assumption) RD.out MV.out (by omega)
  · go_wp2_with fail
    refine (num_lit R (c + 1) _ _ _ (by simp) rd (by omega) (by simp) (by simp) (by simp) 5 rfl).mono ?_
    rintro e w2 ⟨z, rfl, rd2, mv2⟩
    clear rd
    go_wp2_with fail
    refine (pick_any R (c + 1 + 1) 5 w2 rd2 (by omega) (by omega)).mono ?_
    rintro e w3 ⟨y, rfl, y0, y1, -, rd3, mv3⟩
    have hy : y < 5 := y1 (by omega)
    have q := mul_any Tryd.prog (floatOfInt .f64 (y - 2)) 4598175219545276416
    have q2 : ∀ b, _ := add_any Tryd.prog (floatOfInt .f64 z)
    have MV : Hid (Moved R w w3) := (mv.trans mv2).trans mv3
    have RD : Hid (Rd R (c + 1 + 1 + 1) w3) := rd3
    clear rd2 rd3 mv mv2 mv3 y1
    go_wp2
    go_ret
    exact drawnB_of _ (by first | decide | exact got_lt _ _ _ _ | exact foi_lt _ | exact neg_lt (by decide) | assumption) (RD.out.drewN _) (MV.out.drewN _) (by omega)
  · go_wp2_with fail
    refine (word_any R (c + 1) w1 rd (by omega)).mono ?_
    rintro e w2 ⟨z, rfl, rd2, mv2⟩
    have MV : Hid (Moved R w w2) := mv.trans mv2
    have RD : Hid (Rd R (c + 1 + 8) w2) := rd2
    clear rd rd2 mv mv2
    go_wp2
    go_ret
    exact drawnB_of _ (by first | decide | exact got_lt _ _ _ _ | exact foi_lt _ | exact neg_lt (by decide) | assumption) RD.out MV.out (by omega)
  · have n0 : (x == 0) = false := by simp; omega
    have n1 : (x == 1) = false := by simp; omega
    have n2 : (x == 2) = false := by simp; omega
    have n3 : (x == 3) = false := by simp; omega
    have n4 : (x == 4) = false := by simp; omega
    have n5 : (x == 5) = false := by simp; omega
    have n6 : (x == 6) = false := by simp; omega
    have n7 : (x == 7) = false := by simp; omega
    have n8 : (x == 8) = false := by simp; omega
    have n9 : (x == 9) = false := by simp; omega
    have n10 : (x == 10) = false := by simp; omega
    have n11 : (x == 11) = false := by simp; omega
    go_wp2_with fail
    refine (pick_any R (c + 1) 41 w1 rd (by omega) (by omega)).mono ?_
    rintro e w2 ⟨y, rfl, y0, y1, -, rd2, mv2⟩
    have hy : y < 41 := y1 (by omega)
    have q := mul_any Tryd.prog (floatOfInt .f64 (y - 20)) 4598175219545276416
    have MV : Hid (Moved R w w2) := mv.trans mv2
    have RD : Hid (Rd R (c + 1 + 1) w2) := rd2
    clear rd rd2 mv mv2 y1
    go_wp2
    go_ret
    exact drawnB_of _ (by first | decide | exact got_lt _ _ _ _ | exact foi_lt _ | exact neg_lt (by decide) | assumption) (RD.out.drewN _) (MV.out.drewN _) (by omega)

end Go.Proofs.YtdhoimjkgicneaaDoor

/- A drawn memory: that the draw ends, and hands back some memory. -/
namespace Go.Proofs.YtdhoimjkgicneaaDoor
open Go Go.RowKit

/-- A reader, and two memories behind all that was there: nothing, for the answer, and some memory. -/
structure Dr (R c : Nat) (w wr : World) : Prop where
  rd : Rd R c wr
  mv : Moved R w wr
  m : MemSome (w.heap.size + 1) wr
  o : MemAt w.heap.size mem0 wr

theorem MemAt.moved {R b : Nat} {v : MemV} {w w' : World} (h : MemAt b v w) (mv : Moved R w w') (hn : b ≠ R) : MemAt b v w' :=
  h.of_block (mv.block b h.z hn) (Nat.lt_of_lt_of_le h.z mv.size)
theorem MemSome.moved {R b : Nat} {w w' : World} (h : MemSome b w) (mv : Moved R w w') (hn : b ≠ R) : MemSome b w' := by
  obtain ⟨v, hv, hA⟩ := h
  exact ⟨v, hv, hA.moved mv hn⟩

theorem Dr.call {R c c' : Nat} {w wr w2 : World} (h : Dr R c w wr) (hR : R < w.heap.size) (rd : Rd R c' w2) (mv : Moved R wr w2) : Dr R c' w w2 :=
  ⟨rd, h.mv.trans mv, h.m.moved mv (by omega), h.o.moved mv (by omega)⟩
theorem Dr.set {R c k : Nat} {w wr : World} {u : Value} (h : Dr R c w wr) (hR : R < w.heap.size) (hk : k < 136) (hu : fitC k u) : Dr R c w (wr.setCell ⟨w.heap.size + 1, k, none⟩ u) :=
  ⟨h.rd.setCell (by show R < w.heap.size + 1; omega) _, h.mv.setCell (by show w.heap.size ≤ w.heap.size + 1; omega) _, h.m.set hk hu,
    h.o.of_block (Below.heap_setCell _ _ _ _ (by simp)) (by simpa [World.setCell] using h.o.z)⟩
theorem Dr.mono {R c c' : Nat} {w wr : World} (h : Dr R c w wr) (hc : c ≤ c') : Dr R c' w wr := ⟨h.rd.mono hc, h.mv, h.m, h.o⟩

/-- What is written by a draw fits its cell. -/
theorem fit_u32 {k : Nat} (hk : k = 0 ∨ k = 1 ∨ k = 4 ∨ k = 133) (z : Int) : fitC k (.int .u32 (IntKind.u32.wrap z)) := by
  unfold fitC
  rw [if_pos hk]
  have : 0 ≤ IntKind.u32.wrap z ∧ IntKind.u32.wrap z < 4294967296 := by
    simp [IntKind.wrap, IntKind.bits, IntKind.signed]
    omega
  exact ⟨(IntKind.u32.wrap z).toNat, by omega, by rw [Int.toNat_of_nonneg this.1]⟩
theorem fit_u64 {z : Int} (h0 : 0 ≤ z) (h1 : z < 18446744073709551616) : fitC 2 (.int .u64 z) := by
  unfold fitC
  rw [if_neg (by omega), if_pos rfl]
  exact ⟨z.toNat, by omega, by rw [Int.toNat_of_nonneg h0]⟩
theorem wrap_u16 (z : Int) : 0 ≤ IntKind.u16.wrap z ∧ IntKind.u16.wrap z < 65536 := by
  simp [IntKind.wrap, IntKind.bits, IntKind.signed]
  omega
theorem fit_u16 (z : Int) : fitC 3 (.int .u16 (IntKind.u16.wrap z)) := by
  unfold fitC
  rw [if_neg (by omega), if_neg (by omega), if_pos rfl]
  exact ⟨(IntKind.u16.wrap z).toNat, by have := wrap_u16 z; omega, by rw [Int.toNat_of_nonneg (wrap_u16 z).1]⟩
theorem fit_tD {k : Nat} (hk : k < 16) (b : Bool) : fitC (5 + k * 2) (.bool b) := by
  unfold fitC
  rw [if_neg (by omega), if_neg (by omega), if_neg (by omega), if_pos (by omega), if_pos (by omega)]
  exact ⟨b, rfl⟩
theorem fit_tC {k : Nat} (hk : k < 16) (z : Int) : fitC (5 + k * 2 + 1) (.int .u16 (IntKind.u16.wrap z)) := by
  unfold fitC
  rw [if_neg (by omega), if_neg (by omega), if_neg (by omega), if_pos (by omega), if_neg (by omega)]
  exact ⟨(IntKind.u16.wrap z).toNat, by have := wrap_u16 z; omega, by rw [Int.toNat_of_nonneg (wrap_u16 z).1]⟩
theorem fit_cD {k : Nat} (hk : k < 16) (b : Bool) : fitC (37 + k * 3) (.bool b) := by
  unfold fitC
  rw [if_neg (by omega), if_neg (by omega), if_neg (by omega), if_neg (by omega), if_pos (by omega), if_neg (by omega)]
  exact ⟨b, rfl⟩
theorem fit_cL {k : Nat} (hk : k < 16) (b : Bool) : fitC (37 + k * 3 + 1) (.bool b) := by
  unfold fitC
  rw [if_neg (by omega), if_neg (by omega), if_neg (by omega), if_neg (by omega), if_pos (by omega), if_neg (by omega)]
  exact ⟨b, rfl⟩
theorem fit_cC {k : Nat} (hk : k < 16) (z : Int) : fitC (37 + k * 3 + 2) (.int .u16 (IntKind.u16.wrap z)) := by
  unfold fitC
  rw [if_neg (by omega), if_neg (by omega), if_neg (by omega), if_neg (by omega), if_pos (by omega), if_pos (by omega)]
  exact ⟨(IntKind.u16.wrap z).toNat, by have := wrap_u16 z; omega, by rw [Int.toNat_of_nonneg (wrap_u16 z).1]⟩
theorem fit_d {k : Nat} (hk : k < 32) {z : Int} (h1 : -32768 ≤ z) (h2 : z ≤ 32767) : fitC (85 + k) (.int .i16 z) := by
  unfold fitC
  rw [if_neg (by omega), if_neg (by omega), if_neg (by omega), if_neg (by omega), if_neg (by omega), if_pos (by omega)]
  exact ⟨z, h1, h2, rfl⟩
theorem fit_r {k : Nat} (hk : k < 16) {x : Nat} (h1 : x < 2 ^ 64) : fitC (117 + k) (.float .f64 x) := by
  unfold fitC
  rw [if_neg (by omega), if_neg (by omega), if_neg (by omega), if_neg (by omega), if_neg (by omega), if_neg (by omega), if_pos (by omega)]
  exact ⟨x, h1, rfl⟩
theorem fit_b {k : Nat} (hk : k = 134 ∨ k = 135) (b : Bool) : fitC k (.bool b) := by
  unfold fitC
  rw [if_neg (by omega), if_neg (by omega), if_neg (by omega), if_neg (by omega), if_neg (by omega), if_neg (by omega), if_neg (by omega)]
  exact ⟨b, rfl⟩

end Go.Proofs.YtdhoimjkgicneaaDoor
