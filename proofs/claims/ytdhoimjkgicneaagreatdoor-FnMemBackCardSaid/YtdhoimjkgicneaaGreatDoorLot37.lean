/- Texts of this proof laid together: MyC, MyD, ShelfP. -/
import Derived.Test.YtdhoimjkgicneaaGreatDoorLot36
import Derived.Test.YtdhoimjkgicneaaGreatDoorLot20
/- The program's words of the bits of a memory. -/
namespace Go.Proofs.YtdhoimjkgicneaaGreatDoor
open Go Go.RowKit

theorem box_arg {w w1 : World} {x y z : Value} {t : TypeId} (hb : Below (w.alloc (.cells #[x, y, z] t)).heap.size (w.alloc (.cells #[x, y, z] t)) w1) : w1.cell? ⟨w.heap.size, 0, none⟩ = some x ∧ w1.cell? ⟨w.heap.size, 1, none⟩ = some y ∧ w1.cell? ⟨w.heap.size, 2, none⟩ = some z := by
  have k : ∀ o, w1.cell? ⟨w.heap.size, o, none⟩ = (w.alloc (.cells #[x, y, z] t)).cell? ⟨w.heap.size, o, none⟩ := fun o => hb.cell (p := ⟨w.heap.size, o, none⟩) (by show w.heap.size < _; simp)
  exact ⟨(k 0).trans (by simp), (k 1).trans (by simp), (k 2).trans (by simp)⟩

theorem seg_count (n : Nat) (p : Nat → Bool) (f : Nat → Wd) : (seg n p f).length ≤ n := by
  unfold seg
  rw [List.length_map]
  exact Nat.le_trans (List.length_filter_le _ _) (by simp)
theorem kinds_count (v : MemV) : ∀ k, k ≤ 5 → (kindsP v k).length ≤ 64 * k
  | 0, _ => by simp [kindsP]
  | k + 1, h => by
    have h1 := kinds_count v k (by omega)
    have h2 : (bitW v (k + 1)).length ≤ szN (k + 1) := seg_count _ _ _
    have h3 := (size_kind (k := k + 1) (by omega) (by omega)).2.2
    show (kindsP v k ++ bitW v (k + 1)).length ≤ _
    rw [List.length_append]
    omega

set_option maxRecDepth 100000 in
set_option maxHeartbeats 3200000 in
theorem impl_bits (v : MemV) (w : World) (hv : v.Ok) (T : Tabs w) :
    Calls Tryz.prog 12 #[.agg v.row] w fun e w' => ∃ o, e = .returned o ∧ OwnS (w.heap.size + 1) o ((bitsW v).map Wd.text) w' ∧ Below w.heap.size w w' := by
  have HW : Hid (WS v w (.slice none 0 0) (kindsP v 0) (w.alloc (.cells v.row 37))) := WS.first v w 37
  have TT : ∀ w', Below w.heap.size w w' → Tabs w' := fun w' hw' => T.below hw' (Nat.le_refl _)
  have HE : Hid (kindsP v 5 = bitsW v) := kindsP_all v
  go_enter Tryz.func12, Tryz.ntmps12
  go_upto_region 1 with fail
  generalize w.alloc (.cells v.row 37) = w1 at HW ⊢
  go_wp2_with fail
  go_loopw [3, 4] (fun s kv wr => ∃ k : Nat, k ≤ 5 ∧ kv = .int .i64 ((k : Int) + 1) ∧ WS v w s (kindsP v k) wr) (fun _ kv _ => 6 - (intOf kv).toNat)
  case atStart => exact ⟨0, by omega, rfl, HW.out⟩
  case round =>
    clear HW
    obtain ⟨k, hk, rfl, hS⟩ := hrel
    by_cases hk5 : k < 5
    · have hk5' : (k : Int) + 1 ≤ 5 := by omega
      obtain ⟨hs, hs1, hs2⟩ := size_kind (k := k + 1) (by omega) (by omega)
      obtain ⟨N, hN⟩ : ∃ N, N = szN (k + 1) := ⟨_, rfl⟩
      have ek : ((k + 1 : Nat) : Int) = (k : Int) + 1 := by omega
      have CZ : ∀ w, Tabs w → Calls Tryz.prog 29 #[.int .i64 ((k : Int) + 1)] w fun e w' => e = .returned (.int .i64 (N : Int)) ∧ Below w.heap.size w w' := fun w T => by
        have := impl_size ((k : Int) + 1) w T
        rw [← ek, hs, ← hN, ek] at this
        exact this
      have CB : ∀ (i : Nat) w, i < N → Tabs w → Calls Tryz.prog 30 #[.agg v.row, .agg #[.int .i64 ((k : Int) + 1), .int .i64 i, .int .i64 0]] w fun e w' => e = .returned (.bool ((wdN v (k + 1)).testBit i)) ∧ Below w.heap.size w w' := fun i w hi T => by
        have := impl_membit v ((k : Int) + 1) i 0 w hv T.kt
        rw [← ek, mbit_kind v (by omega) (by omega) (by omega), ek] at this
        exact this
      have CT : ∀ (i : Nat) w, i < N → Tabs w → Calls Tryz.prog 31 #[.agg #[.int .i64 ((k : Int) + 1), .int .i64 i, .int .i64 0]] w fun e w' => e = .returned (.string ⟨((⟨k + 1, i, 0, false, false, 0, []⟩ : Wd).text).toArray⟩) ∧ Below w.heap.size w w' := fun i w hi T => by
        have := impl_text ((k : Int) + 1) i 0 w T
        rw [text_dev (by unfold okB; rw [if_neg (by omega), if_neg (by omega), if_neg (by omega)]; simp; rw [← ek, hs]; omega) (by omega), Lib.itoa_nonneg] at this
        rw [bit_wordM (k + 1) i (by omega) (by omega), List.append_nil, ek]
        exact this
      rw [← hN] at hs1 hs2
      have HK : Hid (kindsP v (k + 1) = kindsP v k ++ bitP v (k + 1) N) := by
        show kindsP v k ++ bitW v (k + 1) = _
        rw [hN, bitP_all]
      clear hs hN ek
      have C1 := CZ wr (TT wr hS.2.2)
      have H0 : Hid (WS v w u3 (kindsP v k) wr) := hS
      clear hS
      go_wp2_with fail
      refine C1.mono ?_
      rintro e w2 ⟨rfl, b2⟩
      have H2 : Hid (WS v w u3 (kindsP v k ++ bitP v (k + 1) 0) w2) := by
        have := H0.out.below b2
        show WS v w u3 (kindsP v k ++ []) w2
        rw [List.append_nil]
        exact this
      clear b2 C1 H0 CZ
      go_wp2_with fail
      go_loopw [3, 13] (fun s iv wr => ∃ i : Nat, i ≤ N ∧ iv = .int .i64 i ∧ WS v w s (kindsP v k ++ bitP v (k + 1) i) wr) (fun _ iv _ => N - (intOf iv).toNat)
      case atStart => exact ⟨0, by omega, rfl, H2.out⟩
      case round =>
        clear H2
        obtain ⟨i, hi, rfl, hS⟩ := hrel
        by_cases hin : i < N
        · have hin' : (i : Int) < (N : Int) := by omega
          have hcnt : ((kindsP v k ++ bitP v (k + 1) i).map Wd.text).length ≤ 400 := by
            have h1 := kinds_count v k hk
            have h2 : (bitP v (k + 1) i).length ≤ i := seg_count _ _ _
            rw [List.length_map, List.length_append]
            omega
          have b1 : Below wr.heap.size wr (wr.alloc (.cells #[.int .i64 ((k : Int) + 1), .int .i64 i, .int .i64 0] 66)) := (Below.refl _ _).alloc (Nat.le_refl _) _
          have h1 := hS.below b1
          have CB' := CB i _ hin (TT _ h1.2.2)
          have LM := load_mem h1.2.1
          have H1 : Hid (WS v w u3 (kindsP v k ++ bitP v (k + 1) i) (wr.alloc (.cells #[.int .i64 ((k : Int) + 1), .int .i64 i, .int .i64 0] 66))) := h1
          clear hS b1 h1
          cases hb : (wdN v (k + 1)).testBit i with
          | true =>
            rw [hb] at CB'
            go_wp2_with (refine list_load (t := 37) rfl rfl rfl LM ?_)
            refine CB'.mono ?_
            rintro e w3 ⟨rfl, b3⟩
            obtain ⟨c0, c1, c2⟩ := box_arg b3
            have h3 := H1.out.below b3
            have CT' := CT i w3 hin (TT w3 h3.2.2)
            have H3 : Hid (WS v w u3 (kindsP v k ++ bitP v (k + 1) i) w3) := h3
            have HB : Hid (bitP v (k + 1) (i + 1) = bitP v (k + 1) i ++ [⟨k + 1, i, 0, false, false, 0, []⟩]) := seg_yes hb
            clear b3 h3 CB' LM H1 hb
            go_wp2_with fail
            refine CT'.mono ?_
            rintro e w4 ⟨rfl, b4⟩
            have hU := (H3.out.below b4).below ((Below.refl w4.heap.size w4).alloc (Nat.le_refl _) (.cells #[.string ⟨((⟨k + 1, i, 0, false, false, 0, []⟩ : Wd).text).toArray⟩] 9))
            have HU : Hid (WS v w u3 (kindsP v k ++ bitP v (k + 1) i) (w4.alloc (.cells #[.string ⟨((⟨k + 1, i, 0, false, false, 0, []⟩ : Wd).text).toArray⟩] 9))) := hU
            have hz4 : w.heap.size + 1 ≤ w4.heap.size := by have := H3.out.2.1.z; have := b4.size; omega
            clear b4 hU H3 CT' c0 c1 c2
            obtain ⟨tx, htx⟩ : ∃ tx, tx = (⟨k + 1, i, 0, false, false, 0, []⟩ : Wd).text := ⟨_, rfl⟩
            have HX : Hid (tx = (⟨k + 1, i, 0, false, false, 0, []⟩ : Wd).text) := htx
            rw [← htx] at HU ⊢
            clear htx
            go_wp2_with (at_builtin; refine list_appS (w.heap.size + 1) (v := u3) (s := .slice (some ⟨w4.heap.size, 0, none⟩) 1 1) (xs := (kindsP v k ++ bitP v (k + 1) i).map Wd.text) (ys := [tx]) rfl (.tmp 22) (.tmp 25) rfl rfl rfl HU.out.1 ?c1 (by simp only [List.length_singleton]; omega) (by simp; omega) ?_)
            case c1 => exact one_str tx w4 9
            intro v5 w5 o5 g5
            have HN : Hid (WS v w v5 (kindsP v k ++ bitP v (k + 1) (i + 1)) w5) := by
              show WS v w v5 (kindsP v k ++ bitP v (k + 1) (i + 1)) w5
              rw [HB.out, ← List.append_assoc]
              exact HU.out.app o5 (by rw [HX.out]; simp) g5
            clear o5 g5 HU hz4
            go_wp2_with fail
            go_roundw
            case rel => exact ⟨i + 1, by omega, by go_num, HN.out⟩
            case measure => simp [intOf]; omega
          | false =>
            rw [hb] at CB'
            go_wp2_with (refine list_load (t := 37) rfl rfl rfl LM ?_)
            refine CB'.mono ?_
            rintro e w3 ⟨rfl, b3⟩
            have h3 := H1.out.below b3
            have HB : Hid (bitP v (k + 1) (i + 1) = bitP v (k + 1) i) := seg_no hb
            have H3 : Hid (WS v w u3 (kindsP v k ++ bitP v (k + 1) i) w3) := h3
            clear b3 h3 CB' LM H1 hb
            go_wp2_with fail
            go_roundw
            case rel => exact ⟨i + 1, by omega, by go_num, by rw [HB.out]; exact H3.out⟩
            case measure => simp [intOf]; omega
        · obtain rfl : i = N := by omega
          have HN : Hid (WS v w u3 (kindsP v (k + 1)) wr) := by
            show WS v w u3 (kindsP v (k + 1)) wr
            rw [HK.out]
            exact hS
          clear hS
          go_wp2_with fail
          go_roundw
          case rel => exact ⟨k + 1, by omega, by go_num, HN.out⟩
          case measure => simp [intOf]; omega
    · obtain rfl : k = 5 := by omega
      have H5 : Hid (OwnS (w.heap.size + 1) u3 ((bitsW v).map Wd.text) wr ∧ Below w.heap.size w wr) := ⟨by rw [← HE.out]; exact hS.1, hS.2.2⟩
      clear hS
      go_wp2_with fail
      go_ret
      exact ⟨_, rfl, H5.out.1, H5.out.2⟩

end Go.Proofs.YtdhoimjkgicneaaGreatDoor

/- The program's words of the timers and counters of a memory. -/
namespace Go.Proofs.YtdhoimjkgicneaaGreatDoor
open Go Go.RowKit

theorem timer_word (n c : Nat) (d : Bool) : (⟨7, n, c, d, false, 0, []⟩ : Wd).text = letterL 7 ++ (Lib.decDigits n ++ 61 :: countL c d false) := rfl
theorem counter_word (n c : Nat) (d l : Bool) : (⟨8, n, c, d, l, 0, []⟩ : Wd).text = letterL 8 ++ (Lib.decDigits n ++ 61 :: countL c d l) := rfl

set_option maxRecDepth 100000 in
set_option maxHeartbeats 6400000 in
theorem impl_counts (v : MemV) (w : World) (hv : v.Ok) (T : Tabs w) :
    Calls Tryz.prog 13 #[.agg v.row] w fun e w' => ∃ o, e = .returned o ∧ OwnS (w.heap.size + 1) o ((timerW v ++ counterW v).map Wd.text) w' ∧ Below w.heap.size w w' := by
  have H0 : Hid (WS v w (.slice none 0 0) (timerP v 0) (w.alloc (.cells v.row 37))) := WS.first v w 37
  have TT : ∀ w', Below w.heap.size w w' → Tabs w' := fun w' hw' => T.below hw' (Nat.le_refl _)
  have hcT : ∀ i, i < 16 → v.tC i < 65536 := fun i _ => hv.tC i
  have hcC : ∀ i, i < 16 → v.cC i < 65536 := fun i _ => hv.cC i
  clear T hv
  go_enter Tryz.func13, Tryz.ntmps13
  go_upto_region 1 with fail
  generalize w.alloc (.cells v.row 37) = w1 at H0 ⊢
  have LT := load_timersM H0.out.2.1
  go_wp2_with (refine list_load (t := 28) (x := .pointer (some ⟨w.heap.size, 5, none⟩)) rfl rfl rfl LT ?_)
  clear LT
  go_loopw [3, 10] (fun s iv wr => ∃ i : Nat, i ≤ 16 ∧ iv = .int .i64 i ∧ WS v w s (timerP v i) wr) (fun _ iv _ => 16 - (intOf iv).toNat)
  case atStart => exact ⟨0, by omega, rfl, H0.out⟩
  case round =>
    clear H0
    obtain ⟨i, hi, rfl, hS⟩ := hrel
    by_cases hin : i < 16
    · have hin' : (i : Int) < 16 := by omega
      have hcnt : ((timerP v i).map Wd.text).length ≤ 400 := by
        have : (timerP v i).length ≤ i := seg_count _ _ _
        rw [List.length_map]
        omega
      have b1 : Below wr.heap.size wr (wr.alloc (.cells #[.bool (v.tD i), .int .u16 (v.tC i)] 27)) := (Below.refl _ _).alloc (Nat.le_refl _) _
      have h1 := hS.below b1
      have IX := timerI v.tD v.tC hin wr
      have CM := impl_marked (v.tC i) (v.tD i) false (wr.alloc (.cells #[.bool (v.tD i), .int .u16 (v.tC i)] 27)) (TT _ h1.2.2) (hcT i hin)
      obtain ⟨tx, htx⟩ : ∃ tx, tx = (⟨7, i, v.tC i, v.tD i, false, 0, []⟩ : Wd).text := ⟨_, rfl⟩
      have CN : ∀ w, Tabs w → Calls Tryz.prog 32 #[.int .i64 7, .int .i64 i, .string ⟨(countL (v.tC i) (v.tD i) false).toArray⟩] w fun e w' => e = .returned (.string ⟨tx.toArray⟩) ∧ Below w.heap.size w w' := fun w T => by
        rw [htx, timer_word]
        exact impl_named 7 i (countL (v.tC i) (v.tD i) false) w T (by omega) (by omega) (by show (i : Int) < 16; omega) (Nat.le_trans (count_len _ _ (hcT i hin)) (by omega))
      have HX : Hid (tx = (⟨7, i, v.tC i, v.tD i, false, 0, []⟩ : Wd).text) := htx
      have H1 : Hid (WS v w u3 (timerP v i) (wr.alloc (.cells #[.bool (v.tD i), .int .u16 (v.tC i)] 27))) := h1
      have hCb := hcT i hin
      clear hS b1 h1 htx
      cases hf0 : v.tD i with
      | true =>
        have HB : Hid (timerP v (i + 1) = timerP v i ++ [⟨7, i, v.tC i, v.tD i, false, 0, []⟩]) := seg_yes (by simp only [hf0]; simp)
        rw [hf0] at IX CM CN H1
        clear hf0
        go_wp2_with (refine list_indexM (t := 28) (u1 := .agg (rowOf (fTimer v.tD v.tC) 32)) (u2 := .int .i64 i) rfl rfl rfl rfl IX ?_)
        refine CM.mono ?_
        rintro e w3 ⟨rfl, b3⟩
        have h3 := H1.out.below b3
        have CN' := CN w3 (TT w3 h3.2.2)
        have H4 : Hid (WS v w u3 (timerP v i) w3) := h3
        clear b3 h3 CM IX H1 CN
        go_wp2_with fail
        refine CN'.mono ?_
        rintro e w5 ⟨rfl, b5⟩
        have hU := (H4.out.below b5).below ((Below.refl w5.heap.size w5).alloc (Nat.le_refl _) (.cells #[.string ⟨tx.toArray⟩] 9))
        have HU : Hid (WS v w u3 (timerP v i) (w5.alloc (.cells #[.string ⟨tx.toArray⟩] 9))) := hU
        have hz5 : w.heap.size + 1 ≤ w5.heap.size := by have := H4.out.2.1.z; have := b5.size; omega
        clear b5 hU H4 CN'
        go_wp2_with (at_builtin; refine list_appS (w.heap.size + 1) (v := u3) (s := .slice (some ⟨w5.heap.size, 0, none⟩) 1 1) (xs := (timerP v i).map Wd.text) (ys := [tx]) rfl (.tmp 17) (.tmp 25) rfl rfl rfl HU.out.1 ?c1 (by simp only [List.length_singleton]; omega) (by simp; omega) ?_)
        case c1 => exact one_str tx w5 9
        intro v6 w6 o6 g6
        have HN : Hid (WS v w v6 (timerP v (i + 1)) w6) := by
          show WS v w v6 (timerP v (i + 1)) w6
          rw [HB.out]
          exact HU.out.app o6 (by first | (rw [HX.out]; done) | (rw [HX.out]; simp)) g6
        clear o6 g6 HU hz5
        go_wp2_with fail
        go_roundw
        case rel => exact ⟨i + 1, by omega, by go_num, HN.out⟩
        case measure => simp [intOf]; omega
      | false =>
        obtain ⟨C, hC⟩ : ∃ C, C = v.tC i := ⟨_, rfl⟩
        by_cases hC0 : C = 0
        · have HB : Hid (timerP v (i + 1) = timerP v i) := seg_no (by simp only [hf0, ← hC, hC0]; rfl)
          rw [hf0, ← hC, hC0] at IX H1
          clear CM CN hC hC0 hCb hf0
          go_wp2_with (refine list_indexM (t := 28) (u1 := .agg (rowOf (fTimer v.tD v.tC) 32)) (u2 := .int .i64 i) rfl rfl rfl rfl IX ?_)
          go_roundw
          case rel => exact ⟨i + 1, by omega, by go_num, by rw [HB.out]; exact H1.out⟩
          case measure => simp [intOf]; omega
        · have HB : Hid (timerP v (i + 1) = timerP v i ++ [⟨7, i, v.tC i, v.tD i, false, 0, []⟩]) := seg_yes (by simp only [hf0, ← hC]; simp [hC0])
          rw [hf0, ← hC] at IX CM CN H1
          rw [← hC] at hCb
          have hC1 : (C == 0) = false := by simpa using hC0
          have hC2 : ((C : Int) == 0) = false := by simpa using hC0
          clear hC hf0
          go_wp2_with (refine list_indexM (t := 28) (u1 := .agg (rowOf (fTimer v.tD v.tC) 32)) (u2 := .int .i64 i) rfl rfl rfl rfl IX ?_)
          refine CM.mono ?_
          rintro e w3 ⟨rfl, b3⟩
          have h3 := H1.out.below b3
          have CN' := CN w3 (TT w3 h3.2.2)
          have H4 : Hid (WS v w u3 (timerP v i) w3) := h3
          clear b3 h3 CM IX H1 CN
          go_wp2_with fail
          refine CN'.mono ?_
          rintro e w5 ⟨rfl, b5⟩
          have hU := (H4.out.below b5).below ((Below.refl w5.heap.size w5).alloc (Nat.le_refl _) (.cells #[.string ⟨tx.toArray⟩] 9))
          have HU : Hid (WS v w u3 (timerP v i) (w5.alloc (.cells #[.string ⟨tx.toArray⟩] 9))) := hU
          have hz5 : w.heap.size + 1 ≤ w5.heap.size := by have := H4.out.2.1.z; have := b5.size; omega
          clear b5 hU H4 CN'
          go_wp2_with (at_builtin; refine list_appS (w.heap.size + 1) (v := u3) (s := .slice (some ⟨w5.heap.size, 0, none⟩) 1 1) (xs := (timerP v i).map Wd.text) (ys := [tx]) rfl (.tmp 17) (.tmp 25) rfl rfl rfl HU.out.1 ?c1 (by simp only [List.length_singleton]; omega) (by simp; omega) ?_)
          case c1 => exact one_str tx w5 9
          intro v6 w6 o6 g6
          have HN : Hid (WS v w v6 (timerP v (i + 1)) w6) := by
            show WS v w v6 (timerP v (i + 1)) w6
            rw [HB.out]
            exact HU.out.app o6 (by first | (rw [HX.out]; done) | (rw [HX.out]; simp)) g6
          clear o6 g6 HU hz5
          go_wp2_with fail
          go_roundw
          case rel => exact ⟨i + 1, by omega, by go_num, HN.out⟩
          case measure => simp [intOf]; omega
    · obtain rfl : i = 16 := by omega
      have H0 : Hid (WS v w u3 (timerW v ++ counterP v 0) wr) := by
        show WS v w u3 (timerW v ++ []) wr
        rw [List.append_nil]
        exact hS
      have LT := load_countersM hS.2.1
      clear hS hin hi
      go_wp2_with (refine list_load (t := 31) (x := .pointer (some ⟨w.heap.size, 37, none⟩)) rfl rfl rfl LT ?_)
      clear LT
      go_loopw [3, 30] (fun s iv wr => ∃ i : Nat, i ≤ 16 ∧ iv = .int .i64 i ∧ WS v w s (timerW v ++ counterP v i) wr) (fun _ iv _ => 16 - (intOf iv).toNat)
      case atStart => exact ⟨0, by omega, rfl, H0.out⟩
      case round =>
        clear H0
        obtain ⟨i, hi, rfl, hS⟩ := hrel
        by_cases hin : i < 16
        · have hin' : (i : Int) < 16 := by omega
          have hcnt : ((timerW v ++ counterP v i).map Wd.text).length ≤ 400 := by
            have h1 : (timerW v).length ≤ 16 := seg_count _ _ _
            have h2 : (counterP v i).length ≤ i := seg_count _ _ _
            rw [List.length_map, List.length_append]
            omega
          have b1 : Below wr.heap.size wr (wr.alloc (.cells #[.bool (v.cD i), .bool (v.cL i), .int .u16 (v.cC i)] 30)) := (Below.refl _ _).alloc (Nat.le_refl _) _
          have h1 := hS.below b1
          have IX := counterI v.cD v.cL v.cC hin wr
          have CM := impl_marked (v.cC i) (v.cD i) (v.cL i) (wr.alloc (.cells #[.bool (v.cD i), .bool (v.cL i), .int .u16 (v.cC i)] 30)) (TT _ h1.2.2) (hcC i hin)
          obtain ⟨tx, htx⟩ : ∃ tx, tx = (⟨8, i, v.cC i, v.cD i, v.cL i, 0, []⟩ : Wd).text := ⟨_, rfl⟩
          have CN : ∀ w, Tabs w → Calls Tryz.prog 32 #[.int .i64 8, .int .i64 i, .string ⟨(countL (v.cC i) (v.cD i) (v.cL i)).toArray⟩] w fun e w' => e = .returned (.string ⟨tx.toArray⟩) ∧ Below w.heap.size w w' := fun w T => by
            rw [htx, counter_word]
            exact impl_named 8 i (countL (v.cC i) (v.cD i) (v.cL i)) w T (by omega) (by omega) (by show (i : Int) < 16; omega) (Nat.le_trans (count_len _ _ (hcC i hin)) (by omega))
          have HX : Hid (tx = (⟨8, i, v.cC i, v.cD i, v.cL i, 0, []⟩ : Wd).text) := htx
          have H1 : Hid (WS v w u3 (timerW v ++ counterP v i) (wr.alloc (.cells #[.bool (v.cD i), .bool (v.cL i), .int .u16 (v.cC i)] 30))) := h1
          have hCb := hcC i hin
          clear hS b1 h1 htx
          cases hf0 : v.cD i with
          | true =>
            have HB : Hid (counterP v (i + 1) = counterP v i ++ [⟨8, i, v.cC i, v.cD i, v.cL i, 0, []⟩]) := seg_yes (by simp only [hf0]; simp)
            rw [hf0] at IX CM CN H1
            clear hf0
            go_wp2_with (refine list_indexM (t := 31) (u1 := .agg (rowOf (fCounter v.cD v.cL v.cC) 48)) (u2 := .int .i64 i) rfl rfl rfl rfl IX ?_)
            refine CM.mono ?_
            rintro e w3 ⟨rfl, b3⟩
            have h3 := H1.out.below b3
            have CN' := CN w3 (TT w3 h3.2.2)
            have H4 : Hid (WS v w u3 (timerW v ++ counterP v i) w3) := h3
            clear b3 h3 CM IX H1 CN
            go_wp2_with fail
            refine CN'.mono ?_
            rintro e w5 ⟨rfl, b5⟩
            have hU := (H4.out.below b5).below ((Below.refl w5.heap.size w5).alloc (Nat.le_refl _) (.cells #[.string ⟨tx.toArray⟩] 9))
            have HU : Hid (WS v w u3 (timerW v ++ counterP v i) (w5.alloc (.cells #[.string ⟨tx.toArray⟩] 9))) := hU
            have hz5 : w.heap.size + 1 ≤ w5.heap.size := by have := H4.out.2.1.z; have := b5.size; omega
            clear b5 hU H4 CN'
            go_wp2_with (at_builtin; refine list_appS (w.heap.size + 1) (v := u3) (s := .slice (some ⟨w5.heap.size, 0, none⟩) 1 1) (xs := (timerW v ++ counterP v i).map Wd.text) (ys := [tx]) rfl (.tmp 37) (.tmp 47) rfl rfl rfl HU.out.1 ?c1 (by simp only [List.length_singleton]; omega) (by simp; omega) ?_)
            case c1 => exact one_str tx w5 9
            intro v6 w6 o6 g6
            have HN : Hid (WS v w v6 (timerW v ++ counterP v (i + 1)) w6) := by
              show WS v w v6 (timerW v ++ counterP v (i + 1)) w6
              rw [HB.out, ← List.append_assoc]
              exact HU.out.app o6 (by first | (rw [HX.out]; done) | (rw [HX.out]; simp)) g6
            clear o6 g6 HU hz5
            go_wp2_with fail
            go_roundw
            case rel => exact ⟨i + 1, by omega, by go_num, HN.out⟩
            case measure => simp [intOf]; omega
          | false =>
            cases hf1 : v.cL i with
            | true =>
              have HB : Hid (counterP v (i + 1) = counterP v i ++ [⟨8, i, v.cC i, v.cD i, v.cL i, 0, []⟩]) := seg_yes (by simp only [hf0, hf1]; simp)
              rw [hf0, hf1] at IX CM CN H1
              clear hf0 hf1
              go_wp2_with (refine list_indexM (t := 31) (u1 := .agg (rowOf (fCounter v.cD v.cL v.cC) 48)) (u2 := .int .i64 i) rfl rfl rfl rfl IX ?_)
              refine CM.mono ?_
              rintro e w3 ⟨rfl, b3⟩
              have h3 := H1.out.below b3
              have CN' := CN w3 (TT w3 h3.2.2)
              have H4 : Hid (WS v w u3 (timerW v ++ counterP v i) w3) := h3
              clear b3 h3 CM IX H1 CN
              go_wp2_with fail
              refine CN'.mono ?_
              rintro e w5 ⟨rfl, b5⟩
              have hU := (H4.out.below b5).below ((Below.refl w5.heap.size w5).alloc (Nat.le_refl _) (.cells #[.string ⟨tx.toArray⟩] 9))
              have HU : Hid (WS v w u3 (timerW v ++ counterP v i) (w5.alloc (.cells #[.string ⟨tx.toArray⟩] 9))) := hU
              have hz5 : w.heap.size + 1 ≤ w5.heap.size := by have := H4.out.2.1.z; have := b5.size; omega
              clear b5 hU H4 CN'
              go_wp2_with (at_builtin; refine list_appS (w.heap.size + 1) (v := u3) (s := .slice (some ⟨w5.heap.size, 0, none⟩) 1 1) (xs := (timerW v ++ counterP v i).map Wd.text) (ys := [tx]) rfl (.tmp 37) (.tmp 47) rfl rfl rfl HU.out.1 ?c1 (by simp only [List.length_singleton]; omega) (by simp; omega) ?_)
              case c1 => exact one_str tx w5 9
              intro v6 w6 o6 g6
              have HN : Hid (WS v w v6 (timerW v ++ counterP v (i + 1)) w6) := by
                show WS v w v6 (timerW v ++ counterP v (i + 1)) w6
                rw [HB.out, ← List.append_assoc]
                exact HU.out.app o6 (by first | (rw [HX.out]; done) | (rw [HX.out]; simp)) g6
              clear o6 g6 HU hz5
              go_wp2_with fail
              go_roundw
              case rel => exact ⟨i + 1, by omega, by go_num, HN.out⟩
              case measure => simp [intOf]; omega
            | false =>
              obtain ⟨C, hC⟩ : ∃ C, C = v.cC i := ⟨_, rfl⟩
              by_cases hC0 : C = 0
              · have HB : Hid (counterP v (i + 1) = counterP v i) := seg_no (by simp only [hf0, hf1, ← hC, hC0]; rfl)
                rw [hf0, hf1, ← hC, hC0] at IX H1
                clear CM CN hC hC0 hCb hf0 hf1
                go_wp2_with (refine list_indexM (t := 31) (u1 := .agg (rowOf (fCounter v.cD v.cL v.cC) 48)) (u2 := .int .i64 i) rfl rfl rfl rfl IX ?_)
                go_roundw
                case rel => exact ⟨i + 1, by omega, by go_num, by rw [HB.out]; exact H1.out⟩
                case measure => simp [intOf]; omega
              · have HB : Hid (counterP v (i + 1) = counterP v i ++ [⟨8, i, v.cC i, v.cD i, v.cL i, 0, []⟩]) := seg_yes (by simp only [hf0, hf1, ← hC]; simp [hC0])
                rw [hf0, hf1, ← hC] at IX CM CN H1
                rw [← hC] at hCb
                have hC1 : (C == 0) = false := by simpa using hC0
                have hC2 : ((C : Int) == 0) = false := by simpa using hC0
                clear hC hf0 hf1
                go_wp2_with (refine list_indexM (t := 31) (u1 := .agg (rowOf (fCounter v.cD v.cL v.cC) 48)) (u2 := .int .i64 i) rfl rfl rfl rfl IX ?_)
                refine CM.mono ?_
                rintro e w3 ⟨rfl, b3⟩
                have h3 := H1.out.below b3
                have CN' := CN w3 (TT w3 h3.2.2)
                have H4 : Hid (WS v w u3 (timerW v ++ counterP v i) w3) := h3
                clear b3 h3 CM IX H1 CN
                go_wp2_with fail
                refine CN'.mono ?_
                rintro e w5 ⟨rfl, b5⟩
                have hU := (H4.out.below b5).below ((Below.refl w5.heap.size w5).alloc (Nat.le_refl _) (.cells #[.string ⟨tx.toArray⟩] 9))
                have HU : Hid (WS v w u3 (timerW v ++ counterP v i) (w5.alloc (.cells #[.string ⟨tx.toArray⟩] 9))) := hU
                have hz5 : w.heap.size + 1 ≤ w5.heap.size := by have := H4.out.2.1.z; have := b5.size; omega
                clear b5 hU H4 CN'
                go_wp2_with (at_builtin; refine list_appS (w.heap.size + 1) (v := u3) (s := .slice (some ⟨w5.heap.size, 0, none⟩) 1 1) (xs := (timerW v ++ counterP v i).map Wd.text) (ys := [tx]) rfl (.tmp 37) (.tmp 47) rfl rfl rfl HU.out.1 ?c1 (by simp only [List.length_singleton]; omega) (by simp; omega) ?_)
                case c1 => exact one_str tx w5 9
                intro v6 w6 o6 g6
                have HN : Hid (WS v w v6 (timerW v ++ counterP v (i + 1)) w6) := by
                  show WS v w v6 (timerW v ++ counterP v (i + 1)) w6
                  rw [HB.out, ← List.append_assoc]
                  exact HU.out.app o6 (by first | (rw [HX.out]; done) | (rw [HX.out]; simp)) g6
                clear o6 g6 HU hz5
                go_wp2_with fail
                go_roundw
                case rel => exact ⟨i + 1, by omega, by go_num, HN.out⟩
                case measure => simp [intOf]; omega
        · obtain rfl : i = 16 := by omega
          have H5 : Hid (OwnS (w.heap.size + 1) u3 ((timerW v ++ counterW v).map Wd.text) wr ∧ Below w.heap.size w wr) := ⟨hS.1, hS.2.2⟩
          clear hS
          go_wp2_with fail
          go_ret
          exact ⟨_, rfl, H5.out.1, H5.out.2⟩

end Go.Proofs.YtdhoimjkgicneaaGreatDoor

/- The contracts of the library that the texts lean on: they are in the text Shelf. -/
