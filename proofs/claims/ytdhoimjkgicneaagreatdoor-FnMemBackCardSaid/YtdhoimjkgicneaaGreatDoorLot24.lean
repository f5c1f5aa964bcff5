/- Texts of this proof laid together: DevF, ReadA, ScanA. -/
import Derived.Test.YtdhoimjkgicneaaGreatDoorLot16
import Derived.Test.YtdhoimjkgicneaaGreatDoorLot20
import Derived.Test.YtdhoimjkgicneaaGreatDoorLot18
import Derived.Test.YtdhoimjkgicneaaGreatDoorLot13
import Derived.Deep.LoopGhost
import Derived.Lib.OthersKept
import Derived.Laws.RangeAny
import Derived.Stop.FmtQuoteTie
/- What the program's own small functions on operands do, where its tables lie as its text lays them. -/
namespace Go.Proofs.YtdhoimjkgicneaaGreatDoor
open Go Go.RowKit

/-- The program's tables lie in memory as its text lays them. -/
structure Tabs (w : World) : Prop where
  zk : 1 < w.heap.size
  zw : 0 < w.heap.size
  zp : 2 < w.heap.size
  k0 : ∀ k : Nat, 1 ≤ k → k ≤ 13 → w.cell? ⟨1, k * 5, none⟩ = some (.string ⟨(letterL k).toArray⟩)
  k1 : ∀ k : Nat, 1 ≤ k → k ≤ 13 → w.cell? ⟨1, k * 5 + 1, none⟩ = some (.int .i64 (sizeZ k))
  k2 : ∀ k : Nat, 1 ≤ k → k ≤ 13 → w.cell? ⟨1, k * 5 + 2, none⟩ = some (.bool (bitB k))
  k3 : ∀ k : Nat, 1 ≤ k → k ≤ 13 → w.cell? ⟨1, k * 5 + 3, none⟩ = some (.bool (wholeB k))
  k4 : ∀ k : Nat, 1 ≤ k → k ≤ 13 → w.cell? ⟨1, k * 5 + 4, none⟩ = some (.bool (realB k))
  wd : ∀ i : Nat, i < 4 → w.cell? ⟨0, i, none⟩ = some (.string ⟨(wordL i).toArray⟩)
  tab : Lib.TabIs Tryz.prog w "internal/strconv.uint64pow10" .u64 Lib.pow10Tab

theorem gPow : Tryz.prog.globalNamed "internal/strconv.uint64pow10" = some 2 := by kernel_rfl

theorem Tabs.of_blocks {w w' : World} (T : Tabs w) (h : ∀ k, k < w.heap.size → w'.heap[k]? = w.heap[k]?) (hs : w.heap.size ≤ w'.heap.size) : Tabs w' := by
  have hc : ∀ (b o : Nat), b < w.heap.size → w'.cell? ⟨b, o, none⟩ = w.cell? ⟨b, o, none⟩ := fun b o hb => World.cell?_of_block (h b hb)
  have h1 := T.zk
  have h2 := T.zw
  have h3 := T.zp
  refine ⟨by omega, by omega, by omega, ?_, ?_, ?_, ?_, ?_, ?_, ?_⟩
  · intro k a b; rw [hc _ _ T.zk]; exact T.k0 k a b
  · intro k a b; rw [hc _ _ T.zk]; exact T.k1 k a b
  · intro k a b; rw [hc _ _ T.zk]; exact T.k2 k a b
  · intro k a b; rw [hc _ _ T.zk]; exact T.k3 k a b
  · intro k a b; rw [hc _ _ T.zk]; exact T.k4 k a b
  · intro i a; rw [hc _ _ T.zw]; exact T.wd i a
  · have ht := T.tab
    unfold Lib.TabIs World.var? at ht ⊢
    simp only [gPow, Option.bind_some] at ht ⊢
    rw [h _ T.zp]
    exact ht

theorem Tabs.below {w w' : World} {B : Nat} (T : Tabs w) (h : Below B w w') (hB : w.heap.size ≤ B) : Tabs w' :=
  T.of_blocks (fun k hk => h.block k (by omega)) h.size

theorem Tabs.alloc {w : World} (T : Tabs w) (o : Obj) : Tabs (w.alloc o) := T.below ((Below.refl w.heap.size w).alloc (Nat.le_refl _) o) (Nat.le_refl _)
theorem Tabs.drew {w : World} (T : Tabs w) : Tabs w.drew := T.below (Below.refl w.heap.size w).drew (Nat.le_refl _)
theorem Tabs.drewN {w : World} (T : Tabs w) (n : Nat) : Tabs (w.drewN n) := T.below (below_drewN (Below.refl w.heap.size w) n) (Nat.le_refl _)

theorem Tabs.kt {w : World} (T : Tabs w) : KTab w := ⟨T.zk, T.k0, T.k1, T.k2, T.k3, T.k4⟩

/-- What the table answers at a kind. -/
theorem kind_any (k : Int) (w : World) (T : Tabs w) :
    Calls Tryz.prog 62 #[.int .i64 k] w fun e w' => e = .returned (.agg #[.string ⟨(letterL k).toArray⟩, .int .i64 (sizeZ k), .bool (bitB k), .bool (wholeB k), .bool (realB k)]) ∧ Below w.heap.size w w' := kindK_any k w T.kt

attribute [local go_sem] fld0 fld1

theorem impl_size (k : Int) (w : World) (T : Tabs w) :
    Calls Tryz.prog 29 #[.int .i64 k] w fun e w' => e = .returned (.int .i64 (sizeZ k)) ∧ Below w.heap.size w w' := sizeK k w T.kt

set_option maxHeartbeats 400000 in
theorem impl_letter (k : Int) (w : World) (T : Tabs w) :
    Calls Tryz.prog 68 #[.int .i64 k] w fun e w' => e = .returned (.string ⟨(letterL k).toArray⟩) ∧ Below w.heap.size w w' := by
  go_enter Tryz.func68, Tryz.ntmps68
  go_wp2_with (go_at_call 62; refine (kind_any k _ T).mono ?_; rintro e w' ⟨rfl, hb⟩)
  go_ret
  exact ⟨rfl, hb⟩

theorem impl_ok (k n p : Int) (w : World) (T : Tabs w) :
    Calls Tryz.prog 66 #[.agg #[.int .i64 k, .int .i64 n, .int .i64 p]] w fun e w' => e = .returned (.bool (okB k n p)) ∧ Below w.heap.size w w' := okK k n p w T.kt

end Go.Proofs.YtdhoimjkgicneaaGreatDoor

/- What the specification's small readers do. -/
namespace Go.Proofs.YtdhoimjkgicneaaGreatDoor
open Go Go.RowKit

theorem take_snoc (s : ByteArray) (k : Nat) (h : k < s.size) : s.data.toList.take (k + 1) = s.data.toList.take k ++ [s[k]] := by
  rw [List.take_succ_eq_append_getElem (by simpa using h)]; rfl
theorem drop_cons (s : ByteArray) (k : Nat) (h : k < s.size) : s.data.toList.drop k = s[k] :: s.data.toList.drop (k + 1) := by
  rw [List.drop_eq_getElem_cons (by simpa using h)]; rfl
theorem toList_len (s : ByteArray) : s.data.toList.length = s.size := by rw [Array.length_toList]; rfl

theorem dval_snoc (l : List UInt8) (c : UInt8) : dval (l ++ [c]) 0 = dval l 0 * 10 + (c.toNat - 48) := by rw [dval_append]; rfl
theorem dval_bd : ∀ (l : List UInt8), l.all isDig = true → dval l 0 < 10 ^ l.length := by
  intro l
  suffices h : ∀ (l : List UInt8) (a : Nat), l.all isDig = true → dval l a < (a + 1) * 10 ^ l.length by
    intro h1; simpa using h l 0 h1
  intro l
  induction l with
  | nil => intro a _; simp [dval]
  | cons c cs ih =>
    intro a h
    simp only [List.all_cons, Bool.and_eq_true] at h
    have h1 := ih (a * 10 + (c.toNat - 48)) h.2
    have h2 : c.toNat ≤ 57 := by have := of_decide_eq_true h.1; omega
    have h3 : (a * 10 + (c.toNat - 48) + 1) * 10 ^ cs.length ≤ ((a + 1) * 10) * 10 ^ cs.length := Nat.mul_le_mul_right _ (by omega)
    simp only [dval, List.foldl_cons, List.length_cons] at h1 ⊢
    rw [Nat.pow_succ, Nat.mul_comm (10 ^ cs.length) 10, ← Nat.mul_assoc]
    omega

theorem digitsZ_bad (s : ByteArray) (k : Nat) (hk : k < s.size) (h : isDig s[k] = false) : digitsZ s.data.toList = -1 := by
  unfold digitsZ
  rw [if_neg]
  rintro ⟨-, -, ha⟩
  have := List.all_eq_true.1 ha s[k] (by
    have : s[k] ∈ s.data.toList := Array.getElem_mem_toList (by simpa using hk)
    exact this)
  rw [h] at this; cases this
theorem digitsZ_len (s : ByteArray) (h : s.size = 0 ∨ 17 < s.size) : digitsZ s.data.toList = -1 := by
  have hl := toList_len s
  unfold digitsZ
  rw [if_neg]
  rintro ⟨h1, h2, -⟩
  omega

set_option maxHeartbeats 400000 in
theorem digits_any (s : ByteArray) (w : World) (hs : s.size ≤ 6000) :
    Calls Tryz.prog 128 #[.string s] w fun e w' => e = .returned (.int .i64 (digitsZ s.data.toList)) ∧ w' = w := by
  have hlen := toList_len s
  by_cases h1 : 1 ≤ s.size ∧ s.size ≤ 17
  · obtain ⟨h1, h2⟩ := h1
    have h0 : ((s.size : Int) == 0) = false := by rw [beq_eq_false_iff_ne]; omega
    clear hs
    have HL : Hid (s.data.toList.length = s.size) := hlen
    clear hlen
    go_enter Tryz.func128, Tryz.ntmps128
    go_wp2
    go_loop [3, 4] (fun n i => ∃ k : Nat, k ≤ s.size ∧ i = .int .i64 k ∧ n = .int .i64 (dval (s.data.toList.take k) 0 : Nat) ∧ (s.data.toList.take k).all isDig = true) (fun _ i => s.size - (intOf i).toNat)
    case atStart => exact ⟨0, Nat.zero_le _, rfl, rfl, rfl⟩
    case round =>
      obtain ⟨k, hk, rfl, rfl, ha⟩ := hrel
      have HA : Hid ((s.data.toList.take k).all isDig = true) := ha
      have hb : dval (s.data.toList.take k) 0 < 10 ^ 17 := Nat.lt_of_lt_of_le (dval_bd _ ha) (Nat.pow_le_pow_right (by omega) (by have := HL.out; rw [List.length_take]; omega))
      have hb2 : dval (s.data.toList.take k) 0 < 100000000000000000 := hb
      clear ha hb
      by_cases hlt : k < s.size
      · by_cases d1 : s[k].toNat < 48
        · have HD : Hid (digitsZ s.data.toList = -1) := digitsZ_bad s k hlt (by unfold isDig; simp; omega)
          go_wp2
          go_ret
          exact ⟨ret_int HD.out.symm, rfl⟩
        · by_cases d2 : 57 < s[k].toNat
          · have HD : Hid (digitsZ s.data.toList = -1) := digitsZ_bad s k hlt (by unfold isDig; simp; omega)
            go_wp2
            go_ret
            exact ⟨ret_int HD.out.symm, rfl⟩
          · have HS : Hid (dval (s.data.toList.take (k + 1)) 0 = dval (s.data.toList.take k) 0 * 10 + (s[k].toNat - 48)) := by
              show dval _ _ = _
              rw [take_snoc s k hlt, dval_snoc]
            have HT : Hid (s.data.toList.take (k + 1) = s.data.toList.take k ++ [s[k]]) := take_snoc s k hlt
            go_wp2
            go_round
            case rel =>
              refine ⟨k + 1, by omega, by go_num, ?_, ?_⟩
              · rw [HS.out]; congr 1; omega
              · rw [HT.out, List.all_append, HA.out]
                simp [isDig]; omega
            case measure => simp [intOf]; omega
      · go_wp2
        go_ret
        have e : s.data.toList.take k = s.data.toList := List.take_of_length_le (by have := HL.out; omega)
        refine ⟨ret_int ?_, rfl⟩
        have ha := HA.out
        rw [e] at ha ⊢
        have := HL.out
        rw [digitsZ, if_pos ⟨by omega, by omega, ha⟩]
  · have HD : Hid (digitsZ s.data.toList = -1) := digitsZ_len s (by omega)
    clear hlen
    by_cases h2 : s.size = 0
    · have h0 : ((s.size : Int) == 0) = true := by rw [beq_iff_eq]; omega
      clear h1 h2
      go_enter Tryz.func128, Tryz.ntmps128
      go_wp2
      go_ret
      exact ⟨ret_int HD.out.symm, rfl⟩
    · have h0 : ((s.size : Int) == 0) = false := by rw [beq_eq_false_iff_ne]; omega
      have h3 : 17 < s.size := by omega
      clear h1 h2
      go_enter Tryz.func128, Tryz.ntmps128
      go_wp2
      go_ret
      exact ⟨ret_int HD.out.symm, rfl⟩

/-- Where the point is, as a number; -1 if there is none. -/
def fndZ (l : List UInt8) : Int := match fnd l with | none => -1 | some k => k

theorem fnd_drop (s : ByteArray) (k : Nat) (hk : k < s.size) (h : s[k] ≠ 46) (e : fnd s.data.toList = (fnd (s.data.toList.drop k)).map (· + k)) : fnd s.data.toList = (fnd (s.data.toList.drop (k + 1))).map (· + (k + 1)) := by
  rw [e, drop_cons s k hk, fnd, if_neg h]
  cases fnd (s.data.toList.drop (k + 1)) with
  | none => rfl
  | some d => simp; omega

set_option maxHeartbeats 400000 in
theorem find_any (s : ByteArray) (w : World) (hs : s.size ≤ 6000) :
    Calls Tryz.prog 54 #[.string s, .int .u8 46] w fun e w' => e = .returned (.int .i64 (fndZ s.data.toList)) ∧ w' = w := by
  have HL : Hid (s.data.toList.length = s.size) := toList_len s
  go_enter Tryz.func54, Tryz.ntmps54
  go_wp2
  go_loop [5] (fun i => ∃ k : Nat, k ≤ s.size ∧ i = .int .i64 k ∧ fnd s.data.toList = (fnd (s.data.toList.drop k)).map (· + k)) (fun i => s.size - (intOf i).toNat)
  case atStart => exact ⟨0, Nat.zero_le _, rfl, by simp⟩
  case round =>
    obtain ⟨k, hk, rfl, hf⟩ := hrel
    have HF : Hid (fnd s.data.toList = (fnd (s.data.toList.drop k)).map (· + k)) := hf
    clear hf
    by_cases hlt : k < s.size
    · cases hc : (s[k].toNat : Int) == 46 with
      | true =>
        have HC : Hid (s[k] = 46) := by
          apply UInt8.toNat_inj.1
          simp at hc
          show s[k].toNat = 46
          omega
        go_wp2
        go_ret
        refine ⟨ret_int ?_, rfl⟩
        rw [fndZ, HF.out, drop_cons s k hlt, fnd, if_pos HC.out]
        simp
      | false =>
        have HC : Hid (s[k] ≠ 46) := by
          intro e; rw [e] at hc; revert hc; decide
        go_wp2
        go_round
        case rel => exact ⟨k + 1, by omega, by go_num, fnd_drop s k hlt HC.out HF.out⟩
        case measure => simp [intOf]; omega
    · go_wp2
      go_ret
      refine ⟨ret_int ?_, rfl⟩
      rw [fndZ, HF.out, List.drop_of_length_le (by have := HL.out; omega)]
      rfl

/-- The two answers, under names that nothing lays open. -/
def digB (s : ByteArray) : Int := digitsZ s.data.toList
def fndB (s : ByteArray) : Int := fndZ s.data.toList
theorem digits_b (s : ByteArray) (w : World) (hs : s.size ≤ 6000) :
    Calls Tryz.prog 128 #[.string s] w fun e w' => e = .returned (.int .i64 (digB s)) ∧ w' = w := digits_any s w hs
theorem find_b (s : ByteArray) (w : World) (hs : s.size ≤ 6000) :
    Calls Tryz.prog 54 #[.string s, .int .u8 46] w fun e w' => e = .returned (.int .i64 (fndB s)) ∧ w' = w := find_any s w hs

end Go.Proofs.YtdhoimjkgicneaaGreatDoor

/- What the program's devScan does: the memory that it works in. -/
namespace Go.Proofs.YtdhoimjkgicneaaGreatDoor
open Go Go.RowKit

theorem idx0 (a b c d : ByteArray) (w : World) : (Instr.index 113 (.agg #[.string a, .string b, .string c, .string d]) (.int .i64 0)).run Tryz.prog w = .ok (.string a) w := by kernel_rfl
theorem idx1 (a b c d : ByteArray) (w : World) : (Instr.index 113 (.agg #[.string a, .string b, .string c, .string d]) (.int .i64 1)).run Tryz.prog w = .ok (.string b) w := by kernel_rfl
theorem idx2 (a b c d : ByteArray) (w : World) : (Instr.index 113 (.agg #[.string a, .string b, .string c, .string d]) (.int .i64 2)).run Tryz.prog w = .ok (.string c) w := by kernel_rfl
theorem idx3 (a b c d : ByteArray) (w : World) : (Instr.index 113 (.agg #[.string a, .string b, .string c, .string d]) (.int .i64 3)).run Tryz.prog w = .ok (.string d) w := by kernel_rfl

theorem blk3 {wr : World} {b : Nat} {x y z : Value} {t : TypeId} (h : wr.heap[b]? = some (.cells #[x, y, z] t)) :
    wr.cell? ⟨b, 0, none⟩ = some x ∧ wr.cell? ⟨b, 1, none⟩ = some y ∧ wr.cell? ⟨b, 2, none⟩ = some z ∧ wr.frozen? ⟨b, 0, none⟩ = false ∧ wr.frozen? ⟨b, 1, none⟩ = false ∧ wr.frozen? ⟨b, 2, none⟩ = false := by
  refine ⟨?_, ?_, ?_, ?_, ?_, ?_⟩ <;> simp [World.cell?, World.frozen?, h]

/-- The blocks of a scan: the answer's, the operand's, the iterator's. -/
structure St (w : World) (s : ByteArray) (pos : Nat) (K N P : Int) (wr : World) : Prop where
  b : Below w.heap.size w wr
  q : wr.heap[w.heap.size]? = some (.cells #[.int .i64 0, .int .i64 0, .int .i64 0] 66)
  a : wr.heap[w.heap.size + 1]? = some (.cells #[.int .i64 K, .int .i64 N, .int .i64 P] 66)
  i : wr.heap[w.heap.size + 1 + 1]? = some (.stringIter s pos)

theorem St.init (w : World) (s : ByteArray) : St w s 0 11 (0 : Nat) (0 : Nat) (((w.alloc (.cells #[.int .i64 0, .int .i64 0, .int .i64 0] 66)).alloc (.cells #[.int .i64 11, .int .i64 0, .int .i64 0] 66)).iter s 0) where
  b := (((Below.refl _ w).alloc (Nat.le_refl _) _).alloc (by simp) _).alloc (by simp; omega) _
  q := by
    show (((w.heap.push _).push _).push _)[w.heap.size]? = _
    simp [Array.getElem?_push]; omega
  a := by
    show (((w.heap.push _).push _).push _)[w.heap.size + 1]? = _
    rw [Array.getElem?_push, if_neg (by simp), Array.getElem?_push, if_pos (by simp)]; rfl
  i := by
    show (((w.heap.push _).push _).push _)[w.heap.size + 1 + 1]? = _
    rw [Array.getElem?_push, if_pos (by simp)]
theorem St.size {w : World} {s : ByteArray} {pos : Nat} {K N P : Int} {wr : World} (h : St w s pos K N P wr) : w.heap.size + 1 + 1 < wr.heap.size := (Array.getElem?_eq_some_iff.1 h.i).1
theorem St.next {w : World} {s : ByteArray} {pos : Nat} {K N P : Int} {wr : World} (h : St w s pos K N P wr) (pos' : Nat) : St w s pos' K N P (wr.iterAt (w.heap.size + 1 + 1) s pos') where
  b := Lib.below_iterAt h.b (by omega) s pos'
  q := by rw [← h.q]; exact Array.getElem?_setIfInBounds_ne (by omega)
  a := by rw [← h.a]; exact Array.getElem?_setIfInBounds_ne (by omega)
  i := Lib.iterAt_heap wr _ s pos pos' h.i
theorem St.below {w : World} {s : ByteArray} {pos : Nat} {K N P : Int} {wr wr' : World} (h : St w s pos K N P wr) (hb : Below wr.heap.size wr wr') : St w s pos K N P wr' where
  b := h.b.trans (hb.mono h.b.size)
  q := by rw [hb.block _ (by have := h.size; omega)]; exact h.q
  a := by rw [hb.block _ (by have := h.size; omega)]; exact h.a
  i := by rw [hb.block _ h.size]; exact h.i
theorem St.setK {w : World} {s : ByteArray} {pos : Nat} {K N P : Int} {wr : World} (h : St w s pos K N P wr) (v : Int) : St w s pos v N P (wr.setCell ⟨w.heap.size + 1, 0, none⟩ (.int .i64 v)) where
  b := h.b.setCell (by show w.heap.size ≤ w.heap.size + 1; omega) _
  q := by rw [Below.heap_setCell _ _ _ _ (by show w.heap.size ≠ w.heap.size + 1; omega)]; exact h.q
  a := by simp [World.setCell, Array.getElem?_modify, h.a]
  i := by rw [Below.heap_setCell _ _ _ _ (by show w.heap.size + 1 + 1 ≠ w.heap.size + 1; omega)]; exact h.i
theorem St.setN {w : World} {s : ByteArray} {pos : Nat} {K N P : Int} {wr : World} (h : St w s pos K N P wr) (v : Int) : St w s pos K v P (wr.setCell ⟨w.heap.size + 1, 1, none⟩ (.int .i64 v)) where
  b := h.b.setCell (by show w.heap.size ≤ w.heap.size + 1; omega) _
  q := by rw [Below.heap_setCell _ _ _ _ (by show w.heap.size ≠ w.heap.size + 1; omega)]; exact h.q
  a := by simp [World.setCell, Array.getElem?_modify, h.a]
  i := by rw [Below.heap_setCell _ _ _ _ (by show w.heap.size + 1 + 1 ≠ w.heap.size + 1; omega)]; exact h.i
theorem St.setP {w : World} {s : ByteArray} {pos : Nat} {K N P : Int} {wr : World} (h : St w s pos K N P wr) (v : Int) : St w s pos K N v (wr.setCell ⟨w.heap.size + 1, 2, none⟩ (.int .i64 v)) where
  b := h.b.setCell (by show w.heap.size ≤ w.heap.size + 1; omega) _
  q := by rw [Below.heap_setCell _ _ _ _ (by show w.heap.size ≠ w.heap.size + 1; omega)]; exact h.q
  a := by simp [World.setCell, Array.getElem?_modify, h.a]
  i := by rw [Below.heap_setCell _ _ _ _ (by show w.heap.size + 1 + 1 ≠ w.heap.size + 1; omega)]; exact h.i

theorem scan_dot (s : Int) (N P : Nat) (cs : List UInt8) : scanL 11 s N P (46 :: cs) = scanL 12 s N P cs := by rw [scanL, if_pos ⟨rfl, rfl⟩]
theorem scan_bad {k : Int} (s : Int) {N : Nat} (P : Nat) {c : UInt8} (cs : List UInt8) (h1 : ¬ (c = 46 ∧ k = 11)) (h2 : isDig c = false ∨ 99999999 < N) : scanL k s N P (c :: cs) = (0, 0, 0) := by rw [scanL, if_neg h1, if_pos h2]
theorem scan_dig (k s : Int) {N : Nat} (P : Nat) {c : UInt8} (cs : List UInt8) (h1 : isDig c = true) (h2 : N ≤ 99999999) : scanL k s N P (c :: cs) = scanL k s (N * 10 + (c.toNat - 48)) (if k = 12 then P + 1 else P) cs := by
  rw [scanL, if_neg (by intro e; exact not_dot h1 e.1), if_neg (by rw [h1]; simp; omega)]

theorem enc_one (c : UInt8) (h : c.toNat < 128) : (Utf8.encode (c.toNat : Int)).toList = [c] := by
  rw [ByteArray.toList_eq, Extern.FmtText.enc1 _ h]
  simp
theorem enc_high (r : Nat) (h : 128 ≤ r) : 2 ≤ (Utf8.encode (r : Int)).toList.length := by
  rw [ByteArray.toList_eq]
  by_cases h2 : r < 2048
  · rw [Extern.FmtText.enc2 r (by omega) h2]; simp
  by_cases h3 : (55296 ≤ r ∧ r ≤ 57343) ∨ 1114111 < r
  · rw [Extern.FmtText.encBad r h3]; simp
  by_cases h4 : r < 65536
  · rw [Extern.FmtText.enc3 r h2 h4 (by omega)]; simp
  · rw [Extern.FmtText.enc4 r h4 (by omega)]; simp
theorem not_words {s : ByteArray} (h0 : ([110, 97, 110] == s.toList) = false) (h1 : ([105, 110, 102] == s.toList) = false) (h2 : ([45, 105, 110, 102] == s.toList) = false) (h3 : ([45, 48, 46, 48] == s.toList) = false) :
    s.data.toList ≠ wordL 0 ∧ s.data.toList ≠ wordL 1 ∧ s.data.toList ≠ wordL 2 ∧ s.data.toList ≠ wordL 3 := by
  rw [ByteArray.toList_eq] at h0 h1 h2 h3
  refine ⟨?_, ?_, ?_, ?_⟩
  · intro e; rw [e] at h0; revert h0; decide
  · intro e; rw [e] at h1; revert h1; decide
  · intro e; rw [e] at h2; revert h2; decide
  · intro e; rw [e] at h3; revert h3; decide
theorem scanP_let {l : List UInt8} (h : l ≠ wordL 0 ∧ l ≠ wordL 1 ∧ l ≠ wordL 2 ∧ l ≠ wordL 3) (hk : letK l ≠ 0) : scanP l = scanL (letK l) 1 0 0 (l.drop 1) := by
  unfold scanP; rw [if_neg h.1, if_neg h.2.1, if_neg h.2.2.1, if_neg h.2.2.2, if_pos hk]
theorem scanP_min {l : List UInt8} (h : l ≠ wordL 0 ∧ l ≠ wordL 1 ∧ l ≠ wordL 2 ∧ l ≠ wordL 3) (hk : letK l = 0) (hm : l.take 1 = [45]) : scanP l = scanL 11 (-1) 0 0 (l.drop 1) := by
  unfold scanP; rw [if_neg h.1, if_neg h.2.1, if_neg h.2.2.1, if_neg h.2.2.2, if_neg (by rw [hk]; simp), if_pos hm]
theorem scanP_plus {l : List UInt8} (h : l ≠ wordL 0 ∧ l ≠ wordL 1 ∧ l ≠ wordL 2 ∧ l ≠ wordL 3) (hk : letK l = 0) (hm : l.take 1 ≠ [45]) : scanP l = scanL 11 1 0 0 l := by
  unfold scanP; rw [if_neg h.1, if_neg h.2.1, if_neg h.2.2.1, if_neg h.2.2.2, if_neg (by rw [hk]; simp), if_neg hm]
theorem letK_hit' {l : List UInt8} {m : Nat} (h1 : 1 ≤ m) (h2 : m ≤ 10) (h : l.take 1 = letterL m) : letK l = m := by
  have hm : m = 1 ∨ m = 2 ∨ m = 3 ∨ m = 4 ∨ m = 5 ∨ m = 6 ∨ m = 7 ∨ m = 8 ∨ m = 9 ∨ m = 10 := by omega
  unfold letK
  rw [h]
  rcases hm with rfl | rfl | rfl | rfl | rfl | rfl | rfl | rfl | rfl | rfl <;> decide
theorem letK_none' {l : List UInt8} (h : ∀ j : Nat, 1 ≤ j → j < 11 → l.take 1 ≠ letterL j) : letK l = 0 := by
  have a1 : l.take 1 ≠ [88] := by have e := h 1 (by omega) (by omega); rwa [show letterL ((1 : Nat) : Int) = [88] by decide] at e
  have a2 : l.take 1 ≠ [89] := by have e := h 2 (by omega) (by omega); rwa [show letterL ((2 : Nat) : Int) = [89] by decide] at e
  have a3 : l.take 1 ≠ [77] := by have e := h 3 (by omega) (by omega); rwa [show letterL ((3 : Nat) : Int) = [77] by decide] at e
  have a4 : l.take 1 ≠ [83] := by have e := h 4 (by omega) (by omega); rwa [show letterL ((4 : Nat) : Int) = [83] by decide] at e
  have a5 : l.take 1 ≠ [69] := by have e := h 5 (by omega) (by omega); rwa [show letterL ((5 : Nat) : Int) = [69] by decide] at e
  have a6 : l.take 1 ≠ [71] := by have e := h 6 (by omega) (by omega); rwa [show letterL ((6 : Nat) : Int) = [71] by decide] at e
  have a7 : l.take 1 ≠ [84] := by have e := h 7 (by omega) (by omega); rwa [show letterL ((7 : Nat) : Int) = [84] by decide] at e
  have a8 : l.take 1 ≠ [67] := by have e := h 8 (by omega) (by omega); rwa [show letterL ((8 : Nat) : Int) = [67] by decide] at e
  have a9 : l.take 1 ≠ [68] := by have e := h 9 (by omega) (by omega); rwa [show letterL ((9 : Nat) : Int) = [68] by decide] at e
  have a10 : l.take 1 ≠ [82] := by have e := h 10 (by omega) (by omega); rwa [show letterL ((10 : Nat) : Int) = [82] by decide] at e
  unfold letK
  rw [if_neg a1, if_neg a2, if_neg a3, if_neg a4, if_neg a5, if_neg a6, if_neg a7, if_neg a8, if_neg a9, if_neg a10]
theorem take_one (s : ByteArray) (h : 0 < s.size) : s.data.toList.take 1 = [s[0]] := by rw [take_snoc s 0 h]; rfl

set_option maxRecDepth 100000 in
set_option maxHeartbeats 1000000 in
theorem scan_num (s : ByteArray) (w : World) (T : Tabs w) (hs : s.size ≤ 6000) (h0 : ([110, 97, 110] == s.toList) = false) (h1 : ([105, 110, 102] == s.toList) = false) (h2 : ([45, 105, 110, 102] == s.toList) = false) (h3 : ([45, 48, 46, 48] == s.toList) = false) :
    Calls Tryz.prog 84 #[.string s] w fun e w' => ∃ k n p : Int, e = .returned (.agg #[.int .i64 k, .int .i64 n, .int .i64 p]) ∧ scanP s.data.toList = (k, n, p) ∧ Below w.heap.size w w' := by
  have HW : Hid (s.data.toList ≠ wordL 0 ∧ s.data.toList ≠ wordL 1 ∧ s.data.toList ≠ wordL 2 ∧ s.data.toList ≠ wordL 3) := not_words h0 h1 h2 h3
  have c0 := past (T.wd 0 (by decide)) T.zw
  have c1 := past (T.wd 1 (by decide)) T.zw
  have c2 := past (T.wd 2 (by decide)) T.zw
  have c3 := past (T.wd 3 (by decide)) T.zw
  rw [show wordL ((0 : Nat) : Int) = [110, 97, 110] by decide] at c0
  rw [show wordL ((1 : Nat) : Int) = [105, 110, 102] by decide] at c1
  rw [show wordL ((2 : Nat) : Int) = [45, 105, 110, 102] by decide] at c2
  rw [show wordL ((3 : Nat) : Int) = [45, 48, 46, 48] by decide] at c3
  have i0 := idx0
  have i1 := idx1
  have i2 := idx2
  have i3 := idx3
  go_enter Tryz.func84, Tryz.ntmps84
  go_wp2
  go_step3
  go_wp2
  go_loopg [11] 4 (fun g i wr => ∃ k : Nat, k + g = 4 ∧ i = .int .i64 k ∧ wr = w.alloc (.cells #[.int .i64 0, .int .i64 0, .int .i64 0] 66))
  case atStart => exact ⟨0, by omega, rfl, rfl⟩
  case round =>
    obtain ⟨k, hk, rfl, rfl⟩ := hrel
    cases gk with
    | succ g =>
      have hk4 : k = 0 ∨ k = 1 ∨ k = 2 ∨ k = 3 := by omega
      rcases hk4 with rfl | rfl | rfl | rfl
      all_goals
        go_wp2
        go_roundg g
        case measure => omega
        case rel => first | exact ⟨1, by omega, rfl, rfl⟩ | exact ⟨2, by omega, rfl, rfl⟩ | exact ⟨3, by omega, rfl, rfl⟩ | exact ⟨4, by omega, rfl, rfl⟩
    | zero =>
      obtain rfl : k = 4 := by omega
      clear c0 c1 c2 c3 i0 i1 i2 i3
      go_wp2
      go_step3
      go_wp2
      go_loopg [6] s.size (fun g sg wr => ∃ (pos N P : Nat) (K sgn : Int), pos + g = s.size ∧ sg = .int .i64 sgn ∧ (sgn = 1 ∨ sgn = -1) ∧ N ≤ 999999999 ∧ P ≤ pos ∧ St w s pos K N P wr ∧
        Hid ((pos = 0 → K = 11 ∧ N = 0 ∧ P = 0 ∧ sgn = 1) ∧ (1 ≤ pos → scanP s.data.toList = scanL K sgn N P (s.data.toList.drop pos))))
      case atStart =>
        exact ⟨0, 0, 0, 11, 1, by omega, rfl, Or.inl rfl, by omega, by omega, St.init w s, ⟨fun _ => ⟨rfl, rfl, rfl, rfl⟩, fun h => by omega⟩⟩
      case round =>
        obtain ⟨pos, N, P, K, sgn, hpos, rfl, hsg, hN, hP, st, HI⟩ := hrel
        cases gk with
        | zero =>
          have hend : ¬ pos < s.size := by omega
          have hnx : ∀ ty, (Instr.next (.pointer (some ⟨w.heap.size + 1 + 1, 0, none⟩)) true ty).run Tryz.prog wr = _ := fun ty => Lib.run_next_end_at wr (w.heap.size + 1 + 1) s pos ty st.i hend
          obtain ⟨a0, a1, a2, d0, d1, d2⟩ := blk3 st.a
          obtain ⟨q0, q1, q2, f0, f1, f2⟩ := blk3 st.q
          have HR : Hid (scanP s.data.toList = (K, (N : Int) * sgn, (P : Int))) := by
            show scanP _ = _
            obtain ⟨i1, i2⟩ := HI.out
            by_cases hp : 1 ≤ pos
            · rw [i2 hp, List.drop_of_length_le (by rw [toList_len]; omega), scanL]
            · obtain ⟨rfl, rfl, rfl, rfl⟩ := i1 (by omega)
              have e0 : s.data.toList = [] := List.length_eq_zero_iff.1 (by rw [toList_len]; omega)
              rw [e0]; decide
          have ST : Hid (St w s pos K N P wr) := st
          clear st HI
          rcases hsg with rfl | rfl
          · go_wp2
            try rw [Exit.noGoto_ret]
            exact bodyPost_ret (v := .agg #[.int .i64 K, .int .i64 N, .int .i64 P]) (by simp [results, Tryz.results84, go_sem, q0, q1, q2]) rfl ⟨K, N, P, rfl, by rw [HR.out]; simp, (((ST.out.b.setCell (by show w.heap.size ≤ w.heap.size + 1; omega) _).setCell (Nat.le_refl _) _).setCell (Nat.le_refl _) _).setCell (Nat.le_refl _) _⟩
          · go_wp2
            try rw [Exit.noGoto_ret]
            exact bodyPost_ret (v := .agg #[.int .i64 K, .int .i64 (-N), .int .i64 P]) (by simp [results, Tryz.results84, go_sem, q0, q1, q2]) rfl ⟨K, -N, P, rfl, by rw [HR.out]; simp, (((ST.out.b.setCell (by show w.heap.size ≤ w.heap.size + 1; omega) _).setCell (Nat.le_refl _) _).setCell (Nat.le_refl _) _).setCell (Nat.le_refl _) _⟩
        | succ g =>
          have hlt : pos < s.size := by omega
          have HD : Hid (s.data.toList.drop pos = s[pos] :: s.data.toList.drop (pos + 1)) := drop_cons s pos hlt
          by_cases hc : s[pos].toNat < 128
          · have hnx : ∀ ty, (Instr.next (.pointer (some ⟨w.heap.size + 1 + 1, 0, none⟩)) true ty).run Tryz.prog wr = _ := fun ty => Lib.run_next_ascii_at wr (w.heap.size + 1 + 1) s pos ty st.i hlt hc
            have st1 := st.next (pos + 1)
            obtain ⟨a0, a1, a2, d0, d1, d2⟩ := blk3 st1.a
            obtain ⟨q0, q1, q2, f0, f1, f2⟩ := blk3 st1.q
            have ST1 : Hid (St w s (pos + 1) K N P (wr.iterAt (w.heap.size + 1 + 1) s (pos + 1))) := st1
            clear st st1
            by_cases hp0 : pos = 0
            · subst hp0
              obtain ⟨rfl, rfl, rfl, rfl⟩ := HI.out.1 rfl
              clear HI HD hsg hN hP
              go_wp2
              go_loopg [9] 10 (fun g2 s9 wy => ∃ m : Nat, m + g2 = 11 ∧ 1 ≤ m ∧ s9 = .int .i64 m ∧ Hid (∀ j : Nat, 1 ≤ j → j < m → s.data.toList.take 1 ≠ letterL j) ∧ St w s (0 + 1) 11 (0 : Nat) (0 : Nat) wy)
              case atStart => exact ⟨1, by omega, by omega, rfl, fun j a b => by omega, ST1.out⟩
              case round =>
                clear a0 a1 a2 d0 d1 d2 q0 q1 q2 f0 f1 f2 hnx ST1
                obtain ⟨m, hm, hm1, rfl, HN, st⟩ := hrel
                have Ty : Tabs wr := T.below st.b (Nat.le_refl _)
                have ST : Hid (St w s (0 + 1) 11 (0 : Nat) (0 : Nat) wr) := st
                obtain ⟨a0, a1, a2, d0, d1, d2⟩ := blk3 st.a
                obtain ⟨q0, q1, q2, f0, f1, f2⟩ := blk3 st.q
                clear st
                cases gk with
                | succ g2 =>
                  go_wp2_with fail
                  refine (impl_letter m wr Ty).mono ?_
                  rintro e w2 ⟨rfl, hb2⟩
                  have st2 := ST.out.below hb2
                  clear a0 a1 a2 d0 d1 d2 q0 q1 q2 f0 f1 f2 hb2
                  obtain ⟨a0, a1, a2, d0, d1, d2⟩ := blk3 st2.a
                  have ST2 : Hid (St w s (0 + 1) 11 (0 : Nat) (0 : Nat) w2) := st2
                  clear st2
                  cases hcmp : (letterL (m : Int) == (Utf8.encode (s[0].toNat : Int)).toList) with
                  | true =>
                    have HK : Hid (letK s.data.toList = m) := letK_hit' hm1 (by omega) (by rw [take_one s hlt, ← enc_one s[0] hc]; exact (beq_iff_eq.1 hcmp).symm)
                    go_wp2
                    go_roundg g
                    case measure => omega
                    case rel => exact ⟨1, 0, 0, m, 1, by omega, rfl, Or.inl rfl, by omega, by omega, ST2.out.setK m, ⟨fun h => by omega, fun _ => by rw [scanP_let HW.out (by rw [HK.out]; omega), HK.out]⟩⟩
                  | false =>
                    go_wp2
                    go_roundg g2
                    case measure => omega
                    case rel =>
                      refine ⟨m + 1, by omega, by omega, by first | rfl | simp, ?_, ST2.out⟩
                      intro j j1 j2
                      by_cases e : j = m
                      · subst e
                        rw [take_one s hlt, ← enc_one s[0] hc]
                        intro e2
                        rw [← e2] at hcmp
                        simp at hcmp
                      · exact HN.out j j1 (by omega)
                | zero =>
                  obtain rfl : m = 11 := by omega
                  have HK : Hid (letK s.data.toList = 0) := letK_none' (fun j a b => HN.out j a b)
                  clear HN
                  by_cases e45 : s[0].toNat = 45
                  · have b45 : ((s[0].toNat : Int) == 45) = true := by rw [beq_iff_eq]; omega
                    have HM : Hid (s.data.toList.take 1 = [45]) := by
                      show List.take 1 _ = _
                      rw [take_one s hlt, UInt8.toNat_inj.1 (show s[0].toNat = (45 : UInt8).toNat from e45)]
                    clear e45
                    go_wp2
                    go_roundg g
                    case measure => omega
                    case rel => exact ⟨1, 0, 0, 11, -1, by omega, rfl, Or.inr rfl, by omega, by omega, ST.out, ⟨fun h => by omega, fun _ => scanP_min HW.out HK.out HM.out⟩⟩
                  · have b45 : ((s[0].toNat : Int) == 45) = false := by rw [beq_eq_false_iff_ne]; omega
                    have HE : Hid (scanP s.data.toList = scanL 11 1 0 0 (s[0] :: s.data.toList.drop 1)) := by
                      show scanP _ = _
                      rw [scanP_plus HW.out HK.out (by rw [take_one s hlt]; intro e; apply e45; rw [(List.cons.inj e).1]; rfl)]
                      conv => lhs; rw [← List.drop_zero (l := s.data.toList), drop_cons s 0 hlt]
                    by_cases e46 : s[0].toNat = 46
                    · have b46 : ((s[0].toNat : Int) == 46) = true := by rw [beq_iff_eq]; omega
                      have HC : Hid (s[0] = 46) := UInt8.toNat_inj.1 e46
                      clear e45
                      go_wp2
                      go_roundg g
                      case measure => omega
                      case rel => exact ⟨1, 0, 0, 12, 1, by omega, rfl, Or.inl rfl, by omega, by omega, ST.out.setK 12, ⟨fun h => by omega, fun _ => by rw [HE.out, HC.out, scan_dot]⟩⟩
                    · have b46 : ((s[0].toNat : Int) == 46) = false := by rw [beq_eq_false_iff_ne]; omega
                      have HC : Hid (s[0] ≠ 46) := by intro e; apply e46; rw [e]; rfl
                      by_cases d1 : s[0].toNat < 48
                      · have HR : Hid (scanP s.data.toList = (0, 0, 0)) := HE.out.trans (scan_bad 1 0 _ (fun h => HC.out h.1) (Or.inl (by unfold isDig; simp; omega)))
                        clear e46 e45
                        go_wp2
                        try rw [Exit.noGoto_ret]
                        exact bodyPost_ret (v := .agg #[.int .i64 0, .int .i64 0, .int .i64 0]) (by simp [results, Tryz.results84, go_sem, q0, q1, q2]) rfl ⟨0, 0, 0, rfl, HR.out, ((ST.out.b.setCell (Nat.le_refl _) _).setCell (Nat.le_refl _) _).setCell (Nat.le_refl _) _⟩
                      · by_cases d2 : 57 < s[0].toNat
                        · have HR : Hid (scanP s.data.toList = (0, 0, 0)) := HE.out.trans (scan_bad 1 0 _ (fun h => HC.out h.1) (Or.inl (by unfold isDig; simp; omega)))
                          clear e46 e45
                          go_wp2
                          try rw [Exit.noGoto_ret]
                          exact bodyPost_ret (v := .agg #[.int .i64 0, .int .i64 0, .int .i64 0]) (by simp [results, Tryz.results84, go_sem, q0, q1, q2]) rfl ⟨0, 0, 0, rfl, HR.out, ((ST.out.b.setCell (Nat.le_refl _) _).setCell (Nat.le_refl _) _).setCell (Nat.le_refl _) _⟩
                        · have HD : Hid (isDig s[0] = true) := by show isDig _ = true; unfold isDig; simp; omega
                          have HV : Hid ((s[0].toNat : Int) - 48 = ((0 * 10 + (s[0].toNat - 48) : Nat) : Int)) := by show _ = _; omega
                          clear e46 e45
                          go_wp2
                          go_roundg g
                          case measure => omega
                          case rel =>
                            refine ⟨1, 0 * 10 + (s[0].toNat - 48), 0, 11, 1, by omega, rfl, Or.inl rfl, by omega, by omega, ?_, ⟨fun h => by omega, fun _ => by rw [HE.out, scan_dig 11 1 0 _ HD.out (by omega), if_neg (by decide)]⟩⟩
                            have := ST.out.setN ((s[0].toNat : Int) - 48)
                            rw [← HV.out]
                            exact this
            · have bp : ((pos : Int) == 0) = false := by rw [beq_eq_false_iff_ne]; omega
              have HE : Hid (scanP s.data.toList = scanL K sgn N P (s[pos] :: s.data.toList.drop (pos + 1))) := by
                show scanP _ = _
                rw [HI.out.2 (by omega), HD.out]
              clear HI HD
              by_cases e46 : s[pos].toNat = 46
              · have b46 : ((s[pos].toNat : Int) == 46) = true := by rw [beq_iff_eq]; omega
                have HC : Hid (s[pos] = 46) := UInt8.toNat_inj.1 e46
                by_cases eK : K = 11
                · subst eK
                  go_wp2
                  go_roundg g
                  case measure => omega
                  case rel => exact ⟨pos + 1, N, P, 12, sgn, by omega, rfl, hsg, hN, by omega, ST1.out.setK 12, ⟨fun h => by omega, fun _ => by rw [HE.out, HC.out, scan_dot]⟩⟩
                · have bK : (K == 11) = false := by rw [beq_eq_false_iff_ne]; exact eK
                  have l48 : s[pos].toNat < 48 := by omega
                  have HR : Hid (scanP s.data.toList = (0, 0, 0)) := HE.out.trans (scan_bad sgn P _ (fun h => eK h.2) (Or.inl (by unfold isDig; simp; omega)))
                  clear e46 eK
                  go_wp2
                  try rw [Exit.noGoto_ret]
                  exact bodyPost_ret (v := .agg #[.int .i64 0, .int .i64 0, .int .i64 0]) (by simp [results, Tryz.results84, go_sem, q0, q1, q2]) rfl ⟨0, 0, 0, rfl, HR.out, ((ST1.out.b.setCell (Nat.le_refl _) _).setCell (Nat.le_refl _) _).setCell (Nat.le_refl _) _⟩
              · have b46 : ((s[pos].toNat : Int) == 46) = false := by rw [beq_eq_false_iff_ne]; omega
                have HC : Hid (s[pos] ≠ 46) := by intro e; apply e46; rw [e]; rfl
                by_cases d1 : s[pos].toNat < 48
                · have HR : Hid (scanP s.data.toList = (0, 0, 0)) := HE.out.trans (scan_bad sgn P _ (fun h => HC.out h.1) (Or.inl (by unfold isDig; simp; omega)))
                  clear e46
                  go_wp2
                  try rw [Exit.noGoto_ret]
                  exact bodyPost_ret (v := .agg #[.int .i64 0, .int .i64 0, .int .i64 0]) (by simp [results, Tryz.results84, go_sem, q0, q1, q2]) rfl ⟨0, 0, 0, rfl, HR.out, ((ST1.out.b.setCell (Nat.le_refl _) _).setCell (Nat.le_refl _) _).setCell (Nat.le_refl _) _⟩
                · by_cases d2 : 57 < s[pos].toNat
                  · have HR : Hid (scanP s.data.toList = (0, 0, 0)) := HE.out.trans (scan_bad sgn P _ (fun h => HC.out h.1) (Or.inl (by unfold isDig; simp; omega)))
                    clear e46
                    go_wp2
                    try rw [Exit.noGoto_ret]
                    exact bodyPost_ret (v := .agg #[.int .i64 0, .int .i64 0, .int .i64 0]) (by simp [results, Tryz.results84, go_sem, q0, q1, q2]) rfl ⟨0, 0, 0, rfl, HR.out, ((ST1.out.b.setCell (Nat.le_refl _) _).setCell (Nat.le_refl _) _).setCell (Nat.le_refl _) _⟩
                  · by_cases d3 : 99999999 < N
                    · have HR : Hid (scanP s.data.toList = (0, 0, 0)) := HE.out.trans (scan_bad sgn P _ (fun h => HC.out h.1) (Or.inr d3))
                      clear e46
                      go_wp2
                      try rw [Exit.noGoto_ret]
                      exact bodyPost_ret (v := .agg #[.int .i64 0, .int .i64 0, .int .i64 0]) (by simp [results, Tryz.results84, go_sem, q0, q1, q2]) rfl ⟨0, 0, 0, rfl, HR.out, ((ST1.out.b.setCell (Nat.le_refl _) _).setCell (Nat.le_refl _) _).setCell (Nat.le_refl _) _⟩
                    · have HD : Hid (isDig s[pos] = true) := by show isDig _ = true; unfold isDig; simp; omega
                      have HV : Hid ((N : Int) * 10 + ((s[pos].toNat : Int) - 48) = ((N * 10 + (s[pos].toNat - 48) : Nat) : Int)) := by show _ = _; omega
                      clear e46
                      by_cases eK : K = 12
                      · subst eK
                        go_wp2
                        go_roundg g
                        case measure => omega
                        case rel =>
                          refine ⟨pos + 1, N * 10 + (s[pos].toNat - 48), P + 1, 12, sgn, by omega, rfl, hsg, by omega, by omega, ?_, ⟨fun h => by omega, fun _ => by rw [HE.out, scan_dig 12 sgn P _ HD.out (by omega), if_pos rfl]⟩⟩
                          have := (ST1.out.setN ((N : Int) * 10 + ((s[pos].toNat : Int) - 48))).setP ((P : Int) + 1)
                          rw [HV.out] at this ⊢
                          exact this
                      · have bK : (K == 12) = false := by rw [beq_eq_false_iff_ne]; exact eK
                        have HK : Hid (K ≠ 12) := eK
                        clear eK
                        go_wp2
                        go_roundg g
                        case measure => omega
                        case rel =>
                          refine ⟨pos + 1, N * 10 + (s[pos].toNat - 48), P, K, sgn, by omega, rfl, hsg, by omega, by omega, ?_, ⟨fun h => by omega, fun _ => by rw [HE.out, scan_dig K sgn P _ HD.out (by omega), if_neg HK.out]⟩⟩
                          have := ST1.out.setN ((N : Int) * 10 + ((s[pos].toNat : Int) - 48))
                          rw [HV.out] at this ⊢
                          exact this
          · have hnx0 : ∀ ty, (Instr.next (.pointer (some ⟨w.heap.size + 1 + 1, 0, none⟩)) true ty).run Tryz.prog wr = _ := fun ty => Lib.run_next_any_at wr (w.heap.size + 1 + 1) s pos ty st.i hlt
            have hr : 128 ≤ (Utf8.decode s pos).1 := (decode_high s pos hlt (by omega)).1
            have st1 := st.next (pos + (Utf8.decode s pos).2)
            have HR : Hid (scanP s.data.toList = (0, 0, 0)) := by
              show scanP _ = _
              have hbad : isDig s[pos] = false := by unfold isDig; simp; omega
              have h46 : s[pos] ≠ 46 := by intro e; rw [e] at hc; exact hc (by decide)
              by_cases hp : 1 ≤ pos
              · rw [HI.out.2 hp, HD.out]
                exact scan_bad sgn P _ (fun h => h46 h.1) (Or.inl hbad)
              · obtain rfl : pos = 0 := by omega
                have hne : ∀ c : UInt8, c.toNat < 128 → s[0] ≠ c := by rintro c h rfl; exact hc h
                have hk : letK s.data.toList = 0 := by
                  unfold letK
                  rw [take_one s hlt]
                  simp [hne 88 (by decide), hne 89 (by decide), hne 77 (by decide), hne 83 (by decide), hne 69 (by decide), hne 71 (by decide), hne 84 (by decide), hne 67 (by decide), hne 68 (by decide), hne 82 (by decide)]
                rw [scanP_plus HW.out hk (by rw [take_one s hlt]; simp [hne 45 (by decide)])]
                conv => lhs; rw [← List.drop_zero (l := s.data.toList), drop_cons s 0 hlt]
                exact scan_bad 1 0 _ (fun h => h46 h.1) (Or.inl hbad)
            generalize (Utf8.decode s pos).1 = r at *
            generalize pos + (Utf8.decode s pos).2 = pos2 at *
            have hnx := hnx0
            clear hnx0 HD hc
            obtain ⟨a0, a1, a2, d0, d1, d2⟩ := blk3 st1.a
            obtain ⟨q0, q1, q2, f0, f1, f2⟩ := blk3 st1.q
            have ST1 : Hid (St w s pos2 K N P (wr.iterAt (w.heap.size + 1 + 1) s pos2)) := st1
            have b46 : ((r : Int) == 46) = false := by rw [beq_eq_false_iff_ne]; omega
            have b45 : ((r : Int) == 45) = false := by rw [beq_eq_false_iff_ne]; omega
            have r57 : 57 < r := by omega
            clear st st1
            by_cases hp0 : pos = 0
            · subst hp0
              clear HI
              go_wp2
              go_loopg [9] 10 (fun g2 s9 wy => ∃ m : Nat, m + g2 = 11 ∧ 1 ≤ m ∧ s9 = .int .i64 m ∧ St w s pos2 K N P wy)
              case atStart => exact ⟨1, by omega, by omega, rfl, ST1.out⟩
              case round =>
                clear a0 a1 a2 d0 d1 d2 q0 q1 q2 f0 f1 f2 hnx ST1
                obtain ⟨m, hm, hm1, rfl, st⟩ := hrel
                have Ty : Tabs wr := T.below st.b (Nat.le_refl _)
                have ST1 : Hid (St w s pos2 K N P wr) := st
                obtain ⟨q0, q1, q2, f0, f1, f2⟩ := blk3 st.q
                clear st
                cases gk with
                | succ g2 =>
                  go_wp2_with fail
                  refine (impl_letter m wr Ty).mono ?_
                  rintro e w2 ⟨rfl, hb2⟩
                  have ST2 : Hid (St w s pos2 K N P w2) := ST1.out.below hb2
                  have hcmp : (letterL (m : Int) == (Utf8.encode (r : Int)).toList) = false := by
                    rw [beq_eq_false_iff_ne]
                    intro e
                    have h1 := enc_high r hr
                    rw [← e] at h1
                    have h2 := letterL_len (m : Int)
                    omega
                  clear hb2
                  go_wp2
                  go_roundg g2
                  case measure => omega
                  case rel => exact ⟨m + 1, by omega, by omega, by first | rfl | simp, ST2.out⟩
                | zero =>
                  obtain rfl : m = 11 := by omega
                  go_wp2
                  try rw [Exit.noGoto_ret]
                  exact bodyPost_ret (v := .agg #[.int .i64 0, .int .i64 0, .int .i64 0]) (by simp [results, Tryz.results84, go_sem, q0, q1, q2]) rfl ⟨0, 0, 0, rfl, HR.out, ((ST1.out.b.setCell (Nat.le_refl _) _).setCell (Nat.le_refl _) _).setCell (Nat.le_refl _) _⟩
            · have bp : ((pos : Int) == 0) = false := by rw [beq_eq_false_iff_ne]; omega
              go_wp2
              try rw [Exit.noGoto_ret]
              exact bodyPost_ret (v := .agg #[.int .i64 0, .int .i64 0, .int .i64 0]) (by simp [results, Tryz.results84, go_sem, q0, q1, q2]) rfl ⟨0, 0, 0, rfl, HR.out, ((ST1.out.b.setCell (Nat.le_refl _) _).setCell (Nat.le_refl _) _).setCell (Nat.le_refl _) _⟩

end Go.Proofs.YtdhoimjkgicneaaGreatDoor
