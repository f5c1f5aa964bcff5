/- What the program's devScan does: the memory that it works in. -/
import Derived.Test.YtdhoimjkgicneaaDoorDevF
import Derived.Test.YtdhoimjkgicneaaDoorDev4
import Derived.Test.YtdhoimjkgicneaaDoorReadA
import Derived.Deep.LoopGhost
import Derived.Lib.OthersKept
import Derived.Laws.RangeAny
import Derived.Stop.FmtQuoteTie
namespace Go.Proofs.YtdhoimjkgicneaaDoor
open Go Go.RowKit

theorem idx0 (a b c d : ByteArray) (w : World) : (Instr.index 85 (.agg #[.string a, .string b, .string c, .string d]) (.int .i64 0)).run Tryd.prog w = .ok (.string a) w := by kernel_rfl
theorem idx1 (a b c d : ByteArray) (w : World) : (Instr.index 85 (.agg #[.string a, .string b, .string c, .string d]) (.int .i64 1)).run Tryd.prog w = .ok (.string b) w := by kernel_rfl
theorem idx2 (a b c d : ByteArray) (w : World) : (Instr.index 85 (.agg #[.string a, .string b, .string c, .string d]) (.int .i64 2)).run Tryd.prog w = .ok (.string c) w := by kernel_rfl
theorem idx3 (a b c d : ByteArray) (w : World) : (Instr.index 85 (.agg #[.string a, .string b, .string c, .string d]) (.int .i64 3)).run Tryd.prog w = .ok (.string d) w := by kernel_rfl

theorem blk3 {wr : World} {b : Nat} {x y z : Value} {t : TypeId} (h : wr.heap[b]? = some (.cells #[x, y, z] t)) :
    wr.cell? ⟨b, 0, none⟩ = some x ∧ wr.cell? ⟨b, 1, none⟩ = some y ∧ wr.cell? ⟨b, 2, none⟩ = some z ∧ wr.frozen? ⟨b, 0, none⟩ = false ∧ wr.frozen? ⟨b, 1, none⟩ = false ∧ wr.frozen? ⟨b, 2, none⟩ = false := by
  refine ⟨?_, ?_, ?_, ?_, ?_, ?_⟩ <;> simp [World.cell?, World.frozen?, h]

/-- The blocks of a scan: the answer's, the operand's, the iterator's. -/
structure St (w : World) (s : ByteArray) (pos : Nat) (K N P : Int) (wr : World) : Prop where
  b : Below w.heap.size w wr
  q : wr.heap[w.heap.size]? = some (.cells #[.int .i64 0, .int .i64 0, .int .i64 0] 24)
  a : wr.heap[w.heap.size + 1]? = some (.cells #[.int .i64 K, .int .i64 N, .int .i64 P] 24)
  i : wr.heap[w.heap.size + 1 + 1]? = some (.stringIter s pos)

theorem St.init (w : World) (s : ByteArray) : St w s 0 11 (0 : Nat) (0 : Nat) (((w.alloc (.cells #[.int .i64 0, .int .i64 0, .int .i64 0] 24)).alloc (.cells #[.int .i64 11, .int .i64 0, .int .i64 0] 24)).iter s 0) where
  b := (((Below.refl _ w).alloc (Nat.le_refl _) _).alloc (by simp) _).alloc (by simp; omega) _
  q := by
    show (((w.heap.push _).push _).push _)[w.heap.size]? = _
    simp [Array.getElem?_push]; omega
  a := by
    show (((w.heap.push _).push _).push _)[w.heap.size + 1]? = _
    rw [Array.getElem?_push, if_neg (by simp), Array.getElem?_push, if_pos (by simp)]; rfl
  i := by
    show (((w.heap.push _).push _).push _)[w.heap.size + 1 + 1]? = _
    rw [Array.getElem?_push, if_pos (by simp)]
theorem St.size {w : World} {s : ByteArray} {pos : Nat} {K N P : Int} {wr : World} (h : St w s pos K N P wr) : w.heap.size + 1 + 1 < wr.heap.size := (Array.getElem?_eq_some_iff.1 h.i).1
theorem St.next {w : World} {s : ByteArray} {pos : Nat} {K N P : Int} {wr : World} (h : St w s pos K N P wr) (pos' : Nat) : St w s pos' K N P (wr.iterAt (w.heap.size + 1 + 1) s pos') where
  b := Lib.below_iterAt h.b (by omega) s pos'
  q := by rw [← h.q]; exact Array.getElem?_setIfInBounds_ne (by omega)
  a := by rw [← h.a]; exact Array.getElem?_setIfInBounds_ne (by omega)
  i := Lib.iterAt_heap wr _ s pos pos' h.i
theorem St.below {w : World} {s : ByteArray} {pos : Nat} {K N P : Int} {wr wr' : World} (h : St w s pos K N P wr) (hb : Below wr.heap.size wr wr') : St w s pos K N P wr' where
  b := h.b.trans (hb.mono h.b.size)
  q := by rw [hb.block _ (by have := h.size; omega)]; exact h.q
  a := by rw [hb.block _ (by have := h.size; omega)]; exact h.a
  i := by rw [hb.block _ h.size]; exact h.i
theorem St.setK {w : World} {s : ByteArray} {pos : Nat} {K N P : Int} {wr : World} (h : St w s pos K N P wr) (v : Int) : St w s pos v N P (wr.setCell ⟨w.heap.size + 1, 0, none⟩ (.int .i64 v)) where
  b := h.b.setCell (by show w.heap.size ≤ w.heap.size + 1; omega) _
  q := by rw [Below.heap_setCell _ _ _ _ (by show w.heap.size ≠ w.heap.size + 1; omega)]; exact h.q
  a := by simp [World.setCell, Array.getElem?_modify, h.a]
  i := by rw [Below.heap_setCell _ _ _ _ (by show w.heap.size + 1 + 1 ≠ w.heap.size + 1; omega)]; exact h.i
theorem St.setN {w : World} {s : ByteArray} {pos : Nat} {K N P : Int} {wr : World} (h : St w s pos K N P wr) (v : Int) : St w s pos K v P (wr.setCell ⟨w.heap.size + 1, 1, none⟩ (.int .i64 v)) where
  b := h.b.setCell (by show w.heap.size ≤ w.heap.size + 1; omega) _
  q := by rw [Below.heap_setCell _ _ _ _ (by show w.heap.size ≠ w.heap.size + 1; omega)]; exact h.q
  a := by simp [World.setCell, Array.getElem?_modify, h.a]
  i := by rw [Below.heap_setCell _ _ _ _ (by show w.heap.size + 1 + 1 ≠ w.heap.size + 1; omega)]; exact h.i
theorem St.setP {w : World} {s : ByteArray} {pos : Nat} {K N P : Int} {wr : World} (h : St w s pos K N P wr) (v : Int) : St w s pos K N v (wr.setCell ⟨w.heap.size + 1, 2, none⟩ (.int .i64 v)) where
  b := h.b.setCell (by show w.heap.size ≤ w.heap.size + 1; omega) _
  q := by rw [Below.heap_setCell _ _ _ _ (by show w.heap.size ≠ w.heap.size + 1; omega)]; exact h.q
  a := by simp [World.setCell, Array.getElem?_modify, h.a]
  i := by rw [Below.heap_setCell _ _ _ _ (by show w.heap.size + 1 + 1 ≠ w.heap.size + 1; omega)]; exact h.i

theorem scan_dot (s : Int) (N P : Nat) (cs : List UInt8) : scanL 11 s N P (46 :: cs) = scanL 12 s N P cs := by rw [scanL, if_pos ⟨rfl, rfl⟩]
theorem scan_bad {k : Int} (s : Int) {N : Nat} (P : Nat) {c : UInt8} (cs : List UInt8) (h1 : ¬ (c = 46 ∧ k = 11)) (h2 : isDig c = false ∨ 99999999 < N) : scanL k s N P (c :: cs) = (0, 0, 0) := by rw [scanL, if_neg h1, if_pos h2]
theorem scan_dig (k s : Int) {N : Nat} (P : Nat) {c : UInt8} (cs : List UInt8) (h1 : isDig c = true) (h2 : N ≤ 99999999) : scanL k s N P (c :: cs) = scanL k s (N * 10 + (c.toNat - 48)) (if k = 12 then P + 1 else P) cs := by
  rw [scanL, if_neg (by intro e; exact not_dot h1 e.1), if_neg (by rw [h1]; simp; omega)]

theorem enc_one (c : UInt8) (h : c.toNat < 128) : (Utf8.encode (c.toNat : Int)).toList = [c] := by
  rw [ByteArray.toList_eq, Extern.FmtText.enc1 _ h]
  simp
theorem enc_high (r : Nat) (h : 128 ≤ r) : 2 ≤ (Utf8.encode (r : Int)).toList.length := by
  rw [ByteArray.toList_eq]
  by_cases h2 : r < 2048
  · rw [Extern.FmtText.enc2 r (by omega) h2]; simp
  by_cases h3 : (55296 ≤ r ∧ r ≤ 57343) ∨ 1114111 < r
  · rw [Extern.FmtText.encBad r h3]; simp
  by_cases h4 : r < 65536
  · rw [Extern.FmtText.enc3 r h2 h4 (by omega)]; simp
  · rw [Extern.FmtText.enc4 r h4 (by omega)]; simp
theorem not_words {s : ByteArray} (h0 : ([110, 97, 110] == s.toList) = false) (h1 : ([105, 110, 102] == s.toList) = false) (h2 : ([45, 105, 110, 102] == s.toList) = false) (h3 : ([45, 48, 46, 48] == s.toList) = false) :
    s.data.toList ≠ wordL 0 ∧ s.data.toList ≠ wordL 1 ∧ s.data.toList ≠ wordL 2 ∧ s.data.toList ≠ wordL 3 := by
  rw [ByteArray.toList_eq] at h0 h1 h2 h3
  refine ⟨?_, ?_, ?_, ?_⟩
  · intro e; rw [e] at h0; revert h0; decide
  · intro e; rw [e] at h1; revert h1; decide
  · intro e; rw [e] at h2; revert h2; decide
  · intro e; rw [e] at h3; revert h3; decide
theorem scanP_let {l : List UInt8} (h : l ≠ wordL 0 ∧ l ≠ wordL 1 ∧ l ≠ wordL 2 ∧ l ≠ wordL 3) (hk : letK l ≠ 0) : scanP l = scanL (letK l) 1 0 0 (l.drop 1) := by
  unfold scanP; rw [if_neg h.1, if_neg h.2.1, if_neg h.2.2.1, if_neg h.2.2.2, if_pos hk]
theorem scanP_min {l : List UInt8} (h : l ≠ wordL 0 ∧ l ≠ wordL 1 ∧ l ≠ wordL 2 ∧ l ≠ wordL 3) (hk : letK l = 0) (hm : l.take 1 = [45]) : scanP l = scanL 11 (-1) 0 0 (l.drop 1) := by
  unfold scanP; rw [if_neg h.1, if_neg h.2.1, if_neg h.2.2.1, if_neg h.2.2.2, if_neg (by rw [hk]; simp), if_pos hm]
theorem scanP_plus {l : List UInt8} (h : l ≠ wordL 0 ∧ l ≠ wordL 1 ∧ l ≠ wordL 2 ∧ l ≠ wordL 3) (hk : letK l = 0) (hm : l.take 1 ≠ [45]) : scanP l = scanL 11 1 0 0 l := by
  unfold scanP; rw [if_neg h.1, if_neg h.2.1, if_neg h.2.2.1, if_neg h.2.2.2, if_neg (by rw [hk]; simp), if_neg hm]
theorem letK_hit' {l : List UInt8} {m : Nat} (h1 : 1 ≤ m) (h2 : m ≤ 10) (h : l.take 1 = letterL m) : letK l = m := by
  have hm : m = 1 ∨ m = 2 ∨ m = 3 ∨ m = 4 ∨ m = 5 ∨ m = 6 ∨ m = 7 ∨ m = 8 ∨ m = 9 ∨ m = 10 := by omega
  unfold letK
  rw [h]
  rcases hm with rfl | rfl | rfl | rfl | rfl | rfl | rfl | rfl | rfl | rfl <;> decide
theorem letK_none' {l : List UInt8} (h : ∀ j : Nat, 1 ≤ j → j < 11 → l.take 1 ≠ letterL j) : letK l = 0 := by
  have a1 : l.take 1 ≠ [88] := by have e := h 1 (by omega) (by omega); rwa [show letterL ((1 : Nat) : Int) = [88] by decide] at e
  have a2 : l.take 1 ≠ [89] := by have e := h 2 (by omega) (by omega); rwa [show letterL ((2 : Nat) : Int) = [89] by decide] at e
  have a3 : l.take 1 ≠ [77] := by have e := h 3 (by omega) (by omega); rwa [show letterL ((3 : Nat) : Int) = [77] by decide] at e
  have a4 : l.take 1 ≠ [83] := by have e := h 4 (by omega) (by omega); rwa [show letterL ((4 : Nat) : Int) = [83] by decide] at e
  have a5 : l.take 1 ≠ [69] := by have e := h 5 (by omega) (by omega); rwa [show letterL ((5 : Nat) : Int) = [69] by decide] at e
  have a6 : l.take 1 ≠ [71] := by have e := h 6 (by omega) (by omega); rwa [show letterL ((6 : Nat) : Int) = [71] by decide] at e
  have a7 : l.take 1 ≠ [84] := by have e := h 7 (by omega) (by omega); rwa [show letterL ((7 : Nat) : Int) = [84] by decide] at e
  have a8 : l.take 1 ≠ [67] := by have e := h 8 (by omega) (by omega); rwa [show letterL ((8 : Nat) : Int) = [67] by decide] at e
  have a9 : l.take 1 ≠ [68] := by have e := h 9 (by omega) (by omega); rwa [show letterL ((9 : Nat) : Int) = [68] by decide] at e
  have a10 : l.take 1 ≠ [82] := by have e := h 10 (by omega) (by omega); rwa [show letterL ((10 : Nat) : Int) = [82] by decide] at e
  unfold letK
  rw [if_neg a1, if_neg a2, if_neg a3, if_neg a4, if_neg a5, if_neg a6, if_neg a7, if_neg a8, if_neg a9, if_neg a10]
theorem take_one (s : ByteArray) (h : 0 < s.size) : s.data.toList.take 1 = [s[0]] := by rw [take_snoc s 0 h]; rfl

set_option maxRecDepth 100000 in
set_option maxHeartbeats 1000000 in
theorem scan_num (s : ByteArray) (w : World) (T : Tabs w) (hs : s.size ≤ 1000) (h0 : ([110, 97, 110] == s.toList) = false) (h1 : ([105, 110, 102] == s.toList) = false) (h2 : ([45, 105, 110, 102] == s.toList) = false) (h3 : ([45, 48, 46, 48] == s.toList) = false) :
    Calls Tryd.prog 66 #[.string s] w fun e w' => ∃ k n p : Int, e = .returned (.agg #[.int .i64 k, .int .i64 n, .int .i64 p]) ∧ scanP s.data.toList = (k, n, p) ∧ Below w.heap.size w w' := by
  have HW : Hid (s.data.toList ≠ wordL 0 ∧ s.data.toList ≠ wordL 1 ∧ s.data.toList ≠ wordL 2 ∧ s.data.toList ≠ wordL 3) := not_words h0 h1 h2 h3
  have c0 := past (T.wd 0 (by decide)) T.zw
  have c1 := past (T.wd 1 (by decide)) T.zw
  have c2 := past (T.wd 2 (by decide)) T.zw
  have c3 := past (T.wd 3 (by decide)) T.zw
  rw [show wordL ((0 : Nat) : Int) = [110, 97, 110] by decide] at c0
  rw [show wordL ((1 : Nat) : Int) = [105, 110, 102] by decide] at c1
  rw [show wordL ((2 : Nat) : Int) = [45, 105, 110, 102] by decide] at c2
  rw [show wordL ((3 : Nat) : Int) = [45, 48, 46, 48] by decide] at c3
  have i0 := idx0
  have i1 := idx1
  have i2 := idx2
  have i3 := idx3
  go_enter Tryd.func66, Tryd.ntmps66
  go_wp2
  go_step3
  go_wp2
  go_loopg [11] 4 (fun g i wr => ∃ k : Nat, k + g = 4 ∧ i = .int .i64 k ∧ wr = w.alloc (.cells #[.int .i64 0, .int .i64 0, .int .i64 0] 24))
  case atStart => exact ⟨0, by omega, rfl, rfl⟩
  case round =>
    obtain ⟨k, hk, rfl, rfl⟩ := hrel
    cases gk with
    | succ g =>
      have hk4 : k = 0 ∨ k = 1 ∨ k = 2 ∨ k = 3 := by omega
      rcases hk4 with rfl | rfl | rfl | rfl
      all_goals
        go_wp2
        go_roundg g
        case measure => omega
        case rel => first | exact ⟨1, by omega, rfl, rfl⟩ | exact ⟨2, by omega, rfl, rfl⟩ | exact ⟨3, by omega, rfl, rfl⟩ | exact ⟨4, by omega, rfl, rfl⟩
    | zero =>
      obtain rfl : k = 4 := by omega
      clear c0 c1 c2 c3 i0 i1 i2 i3
      go_wp2
      go_step3
      go_wp2
      go_loopg [6] s.size (fun g sg wr => ∃ (pos N P : Nat) (K sgn : Int), pos + g = s.size ∧ sg = .int .i64 sgn ∧ (sgn = 1 ∨ sgn = -1) ∧ N ≤ 999999999 ∧ P ≤ pos ∧ St w s pos K N P wr ∧
        Hid ((pos = 0 → K = 11 ∧ N = 0 ∧ P = 0 ∧ sgn = 1) ∧ (1 ≤ pos → scanP s.data.toList = scanL K sgn N P (s.data.toList.drop pos))))
      case atStart =>
        exact ⟨0, 0, 0, 11, 1, by omega, rfl, Or.inl rfl, by omega, by omega, St.init w s, ⟨fun _ => ⟨rfl, rfl, rfl, rfl⟩, fun h => by omega⟩⟩
      case round =>
        obtain ⟨pos, N, P, K, sgn, hpos, rfl, hsg, hN, hP, st, HI⟩ := hrel
        cases gk with
        | zero =>
          have hend : ¬ pos < s.size := by omega
          have hnx : ∀ ty, (Instr.next (.pointer (some ⟨w.heap.size + 1 + 1, 0, none⟩)) true ty).run Tryd.prog wr = _ := fun ty => Lib.run_next_end_at wr (w.heap.size + 1 + 1) s pos ty st.i hend
          obtain ⟨a0, a1, a2, d0, d1, d2⟩ := blk3 st.a
          obtain ⟨q0, q1, q2, f0, f1, f2⟩ := blk3 st.q
          have HR : Hid (scanP s.data.toList = (K, (N : Int) * sgn, (P : Int))) := by
            show scanP _ = _
            obtain ⟨i1, i2⟩ := HI.out
            by_cases hp : 1 ≤ pos
            · rw [i2 hp, List.drop_of_length_le (by rw [toList_len]; omega), scanL]
            · obtain ⟨rfl, rfl, rfl, rfl⟩ := i1 (by omega)
              have e0 : s.data.toList = [] := List.length_eq_zero_iff.1 (by rw [toList_len]; omega)
              rw [e0]; decide
          have ST : Hid (St w s pos K N P wr) := st
          clear st HI
          rcases hsg with rfl | rfl
          · go_wp2
            try rw [Exit.noGoto_ret]
            exact bodyPost_ret (v := .agg #[.int .i64 K, .int .i64 N, .int .i64 P]) (by simp [results, Tryd.results66, go_sem, q0, q1, q2]) rfl ⟨K, N, P, rfl, by rw [HR.out]; simp, (((ST.out.b.setCell (by show w.heap.size ≤ w.heap.size + 1; omega) _).setCell (Nat.le_refl _) _).setCell (Nat.le_refl _) _).setCell (Nat.le_refl _) _⟩
          · go_wp2
            try rw [Exit.noGoto_ret]
            exact bodyPost_ret (v := .agg #[.int .i64 K, .int .i64 (-N), .int .i64 P]) (by simp [results, Tryd.results66, go_sem, q0, q1, q2]) rfl ⟨K, -N, P, rfl, by rw [HR.out]; simp, (((ST.out.b.setCell (by show w.heap.size ≤ w.heap.size + 1; omega) _).setCell (Nat.le_refl _) _).setCell (Nat.le_refl _) _).setCell (Nat.le_refl _) _⟩
        | succ g =>
          have hlt : pos < s.size := by omega
          have HD : Hid (s.data.toList.drop pos = s[pos] :: s.data.toList.drop (pos + 1)) := drop_cons s pos hlt
          by_cases hc : s[pos].toNat < 128
          · have hnx : ∀ ty, (Instr.next (.pointer (some ⟨w.heap.size + 1 + 1, 0, none⟩)) true ty).run Tryd.prog wr = _ := fun ty => Lib.run_next_ascii_at wr (w.heap.size + 1 + 1) s pos ty st.i hlt hc
            have st1 := st.next (pos + 1)
            obtain ⟨a0, a1, a2, d0, d1, d2⟩ := blk3 st1.a
            obtain ⟨q0, q1, q2, f0, f1, f2⟩ := blk3 st1.q
            have ST1 : Hid (St w s (pos + 1) K N P (wr.iterAt (w.heap.size + 1 + 1) s (pos + 1))) := st1
            clear st st1
            by_cases hp0 : pos = 0
            · subst hp0
              obtain ⟨rfl, rfl, rfl, rfl⟩ := HI.out.1 rfl
              clear HI HD hsg hN hP
              go_wp2
              go_loopg [9] 10 (fun g2 s9 wy => ∃ m : Nat, m + g2 = 11 ∧ 1 ≤ m ∧ s9 = .int .i64 m ∧ Hid (∀ j : Nat, 1 ≤ j → j < m → s.data.toList.take 1 ≠ letterL j) ∧ St w s (0 + 1) 11 (0 : Nat) (0 : Nat) wy)
              case atStart => exact ⟨1, by omega, by omega, rfl, fun j a b => by omega, ST1.out⟩
              case round =>
                clear a0 a1 a2 d0 d1 d2 q0 q1 q2 f0 f1 f2 hnx ST1
                obtain ⟨m, hm, hm1, rfl, HN, st⟩ := hrel
                have Ty : Tabs wr := T.below st.b (Nat.le_refl _)
                have ST : Hid (St w s (0 + 1) 11 (0 : Nat) (0 : Nat) wr) := st
                obtain ⟨a0, a1, a2, d0, d1, d2⟩ := blk3 st.a
                obtain ⟨q0, q1, q2, f0, f1, f2⟩ := blk3 st.q
                clear st
                cases gk with
                | succ g2 =>
                  go_wp2_with fail
                  refine (impl_letter m wr Ty).mono ?_
                  rintro e w2 ⟨rfl, hb2⟩
                  have st2 := ST.out.below hb2
                  clear a0 a1 a2 d0 d1 d2 q0 q1 q2 f0 f1 f2 hb2
                  obtain ⟨a0, a1, a2, d0, d1, d2⟩ := blk3 st2.a
                  have ST2 : Hid (St w s (0 + 1) 11 (0 : Nat) (0 : Nat) w2) := st2
                  clear st2
                  cases hcmp : (letterL (m : Int) == (Utf8.encode (s[0].toNat : Int)).toList) with
                  | true =>
                    have HK : Hid (letK s.data.toList = m) := letK_hit' hm1 (by omega) (by rw [take_one s hlt, ← enc_one s[0] hc]; exact (beq_iff_eq.1 hcmp).symm)
                    go_wp2
                    go_roundg g
                    case measure => omega
                    case rel => exact ⟨1, 0, 0, m, 1, by omega, rfl, Or.inl rfl, by omega, by omega, ST2.out.setK m, ⟨fun h => by omega, fun _ => by rw [scanP_let HW.out (by rw [HK.out]; omega), HK.out]⟩⟩
                  | false =>
                    go_wp2
                    go_roundg g2
                    case measure => omega
                    case rel =>
                      refine ⟨m + 1, by omega, by omega, by first | rfl | simp, ?_, ST2.out⟩
                      intro j j1 j2
                      by_cases e : j = m
                      · subst e
                        rw [take_one s hlt, ← enc_one s[0] hc]
                        intro e2
                        rw [← e2] at hcmp
                        simp at hcmp
                      · exact HN.out j j1 (by omega)
                | zero =>
                  obtain rfl : m = 11 := by omega
                  have HK : Hid (letK s.data.toList = 0) := letK_none' (fun j a b => HN.out j a b)
                  clear HN
                  by_cases e45 : s[0].toNat = 45
                  · have b45 : ((s[0].toNat : Int) == 45) = true := by rw [beq_iff_eq]; omega
                    have HM : Hid (s.data.toList.take 1 = [45]) := by
                      show List.take 1 _ = _
                      rw [take_one s hlt, UInt8.toNat_inj.1 (show s[0].toNat = (45 : UInt8).toNat from e45)]
                    clear e45
                    go_wp2
                    go_roundg g
                    case measure => omega
                    case rel => exact ⟨1, 0, 0, 11, -1, by omega, rfl, Or.inr rfl, by omega, by omega, ST.out, ⟨fun h => by omega, fun _ => scanP_min HW.out HK.out HM.out⟩⟩
                  · have b45 : ((s[0].toNat : Int) == 45) = false := by rw [beq_eq_false_iff_ne]; omega
                    have HE : Hid (scanP s.data.toList = scanL 11 1 0 0 (s[0] :: s.data.toList.drop 1)) := by
                      show scanP _ = _
                      rw [scanP_plus HW.out HK.out (by rw [take_one s hlt]; intro e; apply e45; rw [(List.cons.inj e).1]; rfl)]
                      conv => lhs; rw [← List.drop_zero (l := s.data.toList), drop_cons s 0 hlt]
                    by_cases e46 : s[0].toNat = 46
                    · have b46 : ((s[0].toNat : Int) == 46) = true := by rw [beq_iff_eq]; omega
                      have HC : Hid (s[0] = 46) := UInt8.toNat_inj.1 e46
                      clear e45
                      go_wp2
                      go_roundg g
                      case measure => omega
                      case rel => exact ⟨1, 0, 0, 12, 1, by omega, rfl, Or.inl rfl, by omega, by omega, ST.out.setK 12, ⟨fun h => by omega, fun _ => by rw [HE.out, HC.out, scan_dot]⟩⟩
                    · have b46 : ((s[0].toNat : Int) == 46) = false := by rw [beq_eq_false_iff_ne]; omega
                      have HC : Hid (s[0] ≠ 46) := by intro e; apply e46; rw [e]; rfl
                      by_cases d1 : s[0].toNat < 48
                      · have HR : Hid (scanP s.data.toList = (0, 0, 0)) := HE.out.trans (scan_bad 1 0 _ (fun h => HC.out h.1) (Or.inl (by unfold isDig; simp; omega)))
                        clear e46 e45
                        go_wp2
                        try rw [Exit.noGoto_ret]
                        exact bodyPost_ret (v := .agg #[.int .i64 0, .int .i64 0, .int .i64 0]) (by simp [results, Tryd.results66, go_sem, q0, q1, q2]) rfl ⟨0, 0, 0, rfl, HR.out, ((ST.out.b.setCell (Nat.le_refl _) _).setCell (Nat.le_refl _) _).setCell (Nat.le_refl _) _⟩
                      · by_cases d2 : 57 < s[0].toNat
                        · have HR : Hid (scanP s.data.toList = (0, 0, 0)) := HE.out.trans (scan_bad 1 0 _ (fun h => HC.out h.1) (Or.inl (by unfold isDig; simp; omega)))
                          clear e46 e45
                          go_wp2
                          try rw [Exit.noGoto_ret]
                          exact bodyPost_ret (v := .agg #[.int .i64 0, .int .i64 0, .int .i64 0]) (by simp [results, Tryd.results66, go_sem, q0, q1, q2]) rfl ⟨0, 0, 0, rfl, HR.out, ((ST.out.b.setCell (Nat.le_refl _) _).setCell (Nat.le_refl _) _).setCell (Nat.le_refl _) _⟩
                        · have HD : Hid (isDig s[0] = true) := by show isDig _ = true; unfold isDig; simp; omega
                          have HV : Hid ((s[0].toNat : Int) - 48 = ((0 * 10 + (s[0].toNat - 48) : Nat) : Int)) := by show _ = _; omega
                          clear e46 e45
                          go_wp2
                          go_roundg g
                          case measure => omega
                          case rel =>
                            refine ⟨1, 0 * 10 + (s[0].toNat - 48), 0, 11, 1, by omega, rfl, Or.inl rfl, by omega, by omega, ?_, ⟨fun h => by omega, fun _ => by rw [HE.out, scan_dig 11 1 0 _ HD.out (by omega), if_neg (by decide)]⟩⟩
                            have := ST.out.setN ((s[0].toNat : Int) - 48)
                            rw [← HV.out]
                            exact this
            · have bp : ((pos : Int) == 0) = false := by rw [beq_eq_false_iff_ne]; omega
              have HE : Hid (scanP s.data.toList = scanL K sgn N P (s[pos] :: s.data.toList.drop (pos + 1))) := by
                show scanP _ = _
                rw [HI.out.2 (by omega), HD.out]
              clear HI HD
              by_cases e46 : s[pos].toNat = 46
              · have b46 : ((s[pos].toNat : Int) == 46) = true := by rw [beq_iff_eq]; omega
                have HC : Hid (s[pos] = 46) := UInt8.toNat_inj.1 e46
                by_cases eK : K = 11
                · subst eK
                  go_wp2
                  go_roundg g
                  case measure => omega
                  case rel => exact ⟨pos + 1, N, P, 12, sgn, by omega, rfl, hsg, hN, by omega, ST1.out.setK 12, ⟨fun h => by omega, fun _ => by rw [HE.out, HC.out, scan_dot]⟩⟩
                · have bK : (K == 11) = false := by rw [beq_eq_false_iff_ne]; exact eK
                  have l48 : s[pos].toNat < 48 := by omega
                  have HR : Hid (scanP s.data.toList = (0, 0, 0)) := HE.out.trans (scan_bad sgn P _ (fun h => eK h.2) (Or.inl (by unfold isDig; simp; omega)))
                  clear e46 eK
                  go_wp2
                  try rw [Exit.noGoto_ret]
                  exact bodyPost_ret (v := .agg #[.int .i64 0, .int .i64 0, .int .i64 0]) (by simp [results, Tryd.results66, go_sem, q0, q1, q2]) rfl ⟨0, 0, 0, rfl, HR.out, ((ST1.out.b.setCell (Nat.le_refl _) _).setCell (Nat.le_refl _) _).setCell (Nat.le_refl _) _⟩
              · have b46 : ((s[pos].toNat : Int) == 46) = false := by rw [beq_eq_false_iff_ne]; omega
                have HC : Hid (s[pos] ≠ 46) := by intro e; apply e46; rw [e]; rfl
                by_cases d1 : s[pos].toNat < 48
                · have HR : Hid (scanP s.data.toList = (0, 0, 0)) := HE.out.trans (scan_bad sgn P _ (fun h => HC.out h.1) (Or.inl (by unfold isDig; simp; omega)))
                  clear e46
                  go_wp2
                  try rw [Exit.noGoto_ret]
                  exact bodyPost_ret (v := .agg #[.int .i64 0, .int .i64 0, .int .i64 0]) (by simp [results, Tryd.results66, go_sem, q0, q1, q2]) rfl ⟨0, 0, 0, rfl, HR.out, ((ST1.out.b.setCell (Nat.le_refl _) _).setCell (Nat.le_refl _) _).setCell (Nat.le_refl _) _⟩
                · by_cases d2 : 57 < s[pos].toNat
                  · have HR : Hid (scanP s.data.toList = (0, 0, 0)) := HE.out.trans (scan_bad sgn P _ (fun h => HC.out h.1) (Or.inl (by unfold isDig; simp; omega)))
                    clear e46
                    go_wp2
                    try rw [Exit.noGoto_ret]
                    exact bodyPost_ret (v := .agg #[.int .i64 0, .int .i64 0, .int .i64 0]) (by simp [results, Tryd.results66, go_sem, q0, q1, q2]) rfl ⟨0, 0, 0, rfl, HR.out, ((ST1.out.b.setCell (Nat.le_refl _) _).setCell (Nat.le_refl _) _).setCell (Nat.le_refl _) _⟩
                  · by_cases d3 : 99999999 < N
                    · have HR : Hid (scanP s.data.toList = (0, 0, 0)) := HE.out.trans (scan_bad sgn P _ (fun h => HC.out h.1) (Or.inr d3))
                      clear e46
                      go_wp2
                      try rw [Exit.noGoto_ret]
                      exact bodyPost_ret (v := .agg #[.int .i64 0, .int .i64 0, .int .i64 0]) (by simp [results, Tryd.results66, go_sem, q0, q1, q2]) rfl ⟨0, 0, 0, rfl, HR.out, ((ST1.out.b.setCell (Nat.le_refl _) _).setCell (Nat.le_refl _) _).setCell (Nat.le_refl _) _⟩
                    · have HD : Hid (isDig s[pos] = true) := by show isDig _ = true; unfold isDig; simp; omega
                      have HV : Hid ((N : Int) * 10 + ((s[pos].toNat : Int) - 48) = ((N * 10 + (s[pos].toNat - 48) : Nat) : Int)) := by show _ = _; omega
                      clear e46
                      by_cases eK : K = 12
                      · subst eK
                        go_wp2
                        go_roundg g
                        case measure => omega
                        case rel =>
                          refine ⟨pos + 1, N * 10 + (s[pos].toNat - 48), P + 1, 12, sgn, by omega, rfl, hsg, by omega, by omega, ?_, ⟨fun h => by omega, fun _ => by rw [HE.out, scan_dig 12 sgn P _ HD.out (by omega), if_pos rfl]⟩⟩
                          have := (ST1.out.setN ((N : Int) * 10 + ((s[pos].toNat : Int) - 48))).setP ((P : Int) + 1)
                          rw [HV.out] at this ⊢
                          exact this
                      · have bK : (K == 12) = false := by rw [beq_eq_false_iff_ne]; exact eK
                        have HK : Hid (K ≠ 12) := eK
                        clear eK
                        go_wp2
                        go_roundg g
                        case measure => omega
                        case rel =>
                          refine ⟨pos + 1, N * 10 + (s[pos].toNat - 48), P, K, sgn, by omega, rfl, hsg, by omega, by omega, ?_, ⟨fun h => by omega, fun _ => by rw [HE.out, scan_dig K sgn P _ HD.out (by omega), if_neg HK.out]⟩⟩
                          have := ST1.out.setN ((N : Int) * 10 + ((s[pos].toNat : Int) - 48))
                          rw [HV.out] at this ⊢
                          exact this
          · have hnx0 : ∀ ty, (Instr.next (.pointer (some ⟨w.heap.size + 1 + 1, 0, none⟩)) true ty).run Tryd.prog wr = _ := fun ty => Lib.run_next_any_at wr (w.heap.size + 1 + 1) s pos ty st.i hlt
            have hr : 128 ≤ (Utf8.decode s pos).1 := (decode_high s pos hlt (by omega)).1
            have st1 := st.next (pos + (Utf8.decode s pos).2)
            have HR : Hid (scanP s.data.toList = (0, 0, 0)) := by
              show scanP _ = _
              have hbad : isDig s[pos] = false := by unfold isDig; simp; omega
              have h46 : s[pos] ≠ 46 := by intro e; rw [e] at hc; exact hc (by decide)
              by_cases hp : 1 ≤ pos
              · rw [HI.out.2 hp, HD.out]
                exact scan_bad sgn P _ (fun h => h46 h.1) (Or.inl hbad)
              · obtain rfl : pos = 0 := by omega
                have hne : ∀ c : UInt8, c.toNat < 128 → s[0] ≠ c := by rintro c h rfl; exact hc h
                have hk : letK s.data.toList = 0 := by
                  unfold letK
                  rw [take_one s hlt]
                  simp [hne 88 (by decide), hne 89 (by decide), hne 77 (by decide), hne 83 (by decide), hne 69 (by decide), hne 71 (by decide), hne 84 (by decide), hne 67 (by decide), hne 68 (by decide), hne 82 (by decide)]
                rw [scanP_plus HW.out hk (by rw [take_one s hlt]; simp [hne 45 (by decide)])]
                conv => lhs; rw [← List.drop_zero (l := s.data.toList), drop_cons s 0 hlt]
                exact scan_bad 1 0 _ (fun h => h46 h.1) (Or.inl hbad)
            generalize (Utf8.decode s pos).1 = r at *
            generalize pos + (Utf8.decode s pos).2 = pos2 at *
            have hnx := hnx0
            clear hnx0 HD hc
            obtain ⟨a0, a1, a2, d0, d1, d2⟩ := blk3 st1.a
            obtain ⟨q0, q1, q2, f0, f1, f2⟩ := blk3 st1.q
            have ST1 : Hid (St w s pos2 K N P (wr.iterAt (w.heap.size + 1 + 1) s pos2)) := st1
            have b46 : ((r : Int) == 46) = false := by rw [beq_eq_false_iff_ne]; omega
            have b45 : ((r : Int) == 45) = false := by rw [beq_eq_false_iff_ne]; omega
            have r57 : 57 < r := by omega
            clear st st1
            by_cases hp0 : pos = 0
            · subst hp0
              clear HI
              go_wp2
              go_loopg [9] 10 (fun g2 s9 wy => ∃ m : Nat, m + g2 = 11 ∧ 1 ≤ m ∧ s9 = .int .i64 m ∧ St w s pos2 K N P wy)
              case atStart => exact ⟨1, by omega, by omega, rfl, ST1.out⟩
              case round =>
                clear a0 a1 a2 d0 d1 d2 q0 q1 q2 f0 f1 f2 hnx ST1
                obtain ⟨m, hm, hm1, rfl, st⟩ := hrel
                have Ty : Tabs wr := T.below st.b (Nat.le_refl _)
                have ST1 : Hid (St w s pos2 K N P wr) := st
                obtain ⟨q0, q1, q2, f0, f1, f2⟩ := blk3 st.q
                clear st
                cases gk with
                | succ g2 =>
                  go_wp2_with fail
                  refine (impl_letter m wr Ty).mono ?_
                  rintro e w2 ⟨rfl, hb2⟩
                  have ST2 : Hid (St w s pos2 K N P w2) := ST1.out.below hb2
                  have hcmp : (letterL (m : Int) == (Utf8.encode (r : Int)).toList) = false := by
                    rw [beq_eq_false_iff_ne]
                    intro e
                    have h1 := enc_high r hr
                    rw [← e] at h1
                    have h2 := letterL_len (m : Int)
                    omega
                  clear hb2
                  go_wp2
                  go_roundg g2
                  case measure => omega
                  case rel => exact ⟨m + 1, by omega, by omega, by first | rfl | simp, ST2.out⟩
                | zero =>
                  obtain rfl : m = 11 := by omega
                  go_wp2
                  try rw [Exit.noGoto_ret]
                  exact bodyPost_ret (v := .agg #[.int .i64 0, .int .i64 0, .int .i64 0]) (by simp [results, Tryd.results66, go_sem, q0, q1, q2]) rfl ⟨0, 0, 0, rfl, HR.out, ((ST1.out.b.setCell (Nat.le_refl _) _).setCell (Nat.le_refl _) _).setCell (Nat.le_refl _) _⟩
            · have bp : ((pos : Int) == 0) = false := by rw [beq_eq_false_iff_ne]; omega
              go_wp2
              try rw [Exit.noGoto_ret]
              exact bodyPost_ret (v := .agg #[.int .i64 0, .int .i64 0, .int .i64 0]) (by simp [results, Tryd.results66, go_sem, q0, q1, q2]) rfl ⟨0, 0, 0, rfl, HR.out, ((ST1.out.b.setCell (Nat.le_refl _) _).setCell (Nat.le_refl _) _).setCell (Nat.le_refl _) _⟩

end Go.Proofs.YtdhoimjkgicneaaDoor
