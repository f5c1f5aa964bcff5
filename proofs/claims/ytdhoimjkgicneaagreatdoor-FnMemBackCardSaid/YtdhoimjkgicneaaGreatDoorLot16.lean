/- Texts of this proof laid together: Dev1, DevK, Box. -/
import Derived.Test.YtdhoimjkgicneaaGreatDoorLot8
import Derived.Test.YtdhoimjkgicneaaGreatDoorLot15
import Derived.Test.YtdhoimjkgicneaaGreatDoorLot13
import Derived.Below
/- Which kinds are bits, whole numbers and real numbers, apart from any program. -/
namespace Go.Proofs.YtdhoimjkgicneaaGreatDoor
open Go
def bitB (k : Int) : Bool := decide (k = 1 ∨ k = 2 ∨ k = 3 ∨ k = 4 ∨ k = 6 ∨ k = 7 ∨ k = 8)
def wholeB (k : Int) : Bool := decide (k = 7 ∨ k = 8 ∨ k = 9 ∨ k = 11)
def realB (k : Int) : Bool := decide (k = 10 ∨ k = 12 ∨ k = 13)
theorem bitB_out {k : Int} (h : k < 1 ∨ 13 < k) : bitB k = false := by unfold bitB; simp; omega
theorem wholeB_out {k : Int} (h : k < 1 ∨ 13 < k) : wholeB k = false := by unfold wholeB; simp; omega
theorem realB_out {k : Int} (h : k < 1 ∨ 13 < k) : realB k = false := by unfold realB; simp; omega
end Go.Proofs.YtdhoimjkgicneaaGreatDoor

/- What the program's own table of kinds, and whether an operand is ok, answer where that table lies as its text lays it. -/
namespace Go.Proofs.YtdhoimjkgicneaaGreatDoor
open Go Go.RowKit

/-- The program's table of kinds lies in memory as its text lays it. -/
structure KTab (w : World) : Prop where
  zk : 1 < w.heap.size
  k0 : ∀ k : Nat, 1 ≤ k → k ≤ 13 → w.cell? ⟨1, k * 5, none⟩ = some (.string ⟨(letterL k).toArray⟩)
  k1 : ∀ k : Nat, 1 ≤ k → k ≤ 13 → w.cell? ⟨1, k * 5 + 1, none⟩ = some (.int .i64 (sizeZ k))
  k2 : ∀ k : Nat, 1 ≤ k → k ≤ 13 → w.cell? ⟨1, k * 5 + 2, none⟩ = some (.bool (bitB k))
  k3 : ∀ k : Nat, 1 ≤ k → k ≤ 13 → w.cell? ⟨1, k * 5 + 3, none⟩ = some (.bool (wholeB k))
  k4 : ∀ k : Nat, 1 ≤ k → k ≤ 13 → w.cell? ⟨1, k * 5 + 4, none⟩ = some (.bool (realB k))

theorem KTab.of_blocks {w w' : World} (T : KTab w) (h : ∀ k, k < w.heap.size → w'.heap[k]? = w.heap[k]?) (hs : w.heap.size ≤ w'.heap.size) : KTab w' := by
  have hc : ∀ (b o : Nat), b < w.heap.size → w'.cell? ⟨b, o, none⟩ = w.cell? ⟨b, o, none⟩ := fun b o hb => World.cell?_of_block (h b hb)
  have h1 := T.zk
  refine ⟨by omega, ?_, ?_, ?_, ?_, ?_⟩
  · intro k a b; rw [hc _ _ T.zk]; exact T.k0 k a b
  · intro k a b; rw [hc _ _ T.zk]; exact T.k1 k a b
  · intro k a b; rw [hc _ _ T.zk]; exact T.k2 k a b
  · intro k a b; rw [hc _ _ T.zk]; exact T.k3 k a b
  · intro k a b; rw [hc _ _ T.zk]; exact T.k4 k a b

theorem KTab.below {w w' : World} {B : Nat} (T : KTab w) (h : Below B w w') (hB : w.heap.size ≤ B) : KTab w' :=
  T.of_blocks (fun k hk => h.block k (by omega)) h.size

theorem KTab.alloc {w : World} (T : KTab w) (o : Obj) : KTab (w.alloc o) := T.below ((Below.refl w.heap.size w).alloc (Nat.le_refl _) o) (Nat.le_refl _)
theorem KTab.drew {w : World} (T : KTab w) : KTab w.drew := T.below (Below.refl w.heap.size w).drew (Nat.le_refl _)
theorem KTab.drewN {w : World} (T : KTab w) (n : Nat) : KTab (w.drewN n) := T.below (below_drewN (Below.refl w.heap.size w) n) (Nat.le_refl _)

/-- What the table answers at a kind. -/
theorem kindK_any (k : Int) (w : World) (T : KTab w) :
    Calls Tryz.prog 62 #[.int .i64 k] w fun e w' => e = .returned (.agg #[.string ⟨(letterL k).toArray⟩, .int .i64 (sizeZ k), .bool (bitB k), .bool (wholeB k), .bool (realB k)]) ∧ Below w.heap.size w w' := by
  by_cases h : 1 ≤ k ∧ k ≤ 13
  · obtain ⟨m, rfl⟩ : ∃ m : Nat, k = m := ⟨k.toNat, by omega⟩
    exact kind_in m w (by omega) (by omega) _ _ _ _ _ T.zk (T.k0 m (by omega) (by omega)) (T.k1 m (by omega) (by omega)) (T.k2 m (by omega) (by omega)) (T.k3 m (by omega) (by omega)) (T.k4 m (by omega) (by omega))
  · rw [letterL_out (by omega), sizeZ_out (by omega), bitB_out (by omega), wholeB_out (by omega), realB_out (by omega)]
    exact kind_out k w (by omega)

theorem fld0 (s : ByteArray) (z : Int) (x y r : Bool) (w : World) : (Instr.field 106 (.agg #[.string s, .int .i64 z, .bool x, .bool y, .bool r]) 0).run Tryz.prog w = .ok (.string s) w := by kernel_rfl
theorem fld1 (s : ByteArray) (z : Int) (x y r : Bool) (w : World) : (Instr.field 106 (.agg #[.string s, .int .i64 z, .bool x, .bool y, .bool r]) 1).run Tryz.prog w = .ok (.int .i64 z) w := by kernel_rfl
attribute [local go_sem] fld0 fld1

set_option maxHeartbeats 400000 in
theorem sizeK (k : Int) (w : World) (T : KTab w) :
    Calls Tryz.prog 29 #[.int .i64 k] w fun e w' => e = .returned (.int .i64 (sizeZ k)) ∧ Below w.heap.size w w' := by
  go_enter Tryz.func29, Tryz.ntmps29
  go_wp2_with (go_at_call 62; refine (kindK_any k _ T).mono ?_; rintro e w' ⟨rfl, hb⟩)
  go_ret
  exact ⟨rfl, hb⟩

set_option maxHeartbeats 400000 in
theorem impl_decok (n p : Int) (w : World) :
    Calls Tryz.prog 100 #[.int .i64 n, .int .i64 p] w fun e w' => e = .returned (.bool (okB 12 n p)) ∧ w' = w := by
  go_enter Tryz.func100, Tryz.ntmps100
  go_wp2
  all_goals
    go_ret
    exact ⟨ret_bool (by rw [Bool.eq_iff_iff]; simp [okB]; omega), rfl⟩

set_option maxHeartbeats 400000 in
theorem impl_ok11 (n p : Int) (w : World) :
    Calls Tryz.prog 66 #[.agg #[.int .i64 11, .int .i64 n, .int .i64 p]] w fun e w' => e = .returned (.bool (okB 11 n p)) ∧ Below w.heap.size w w' := by
  go_enter Tryz.func66, Tryz.ntmps66
  go_wp2
  all_goals
    go_ret
    exact ⟨ret_bool (by rw [Bool.eq_iff_iff]; simp [okB]; omega), (Below.refl _ _).alloc (Nat.le_refl _) _⟩

set_option maxHeartbeats 400000 in
theorem impl_ok12 (n p : Int) (w : World) :
    Calls Tryz.prog 66 #[.agg #[.int .i64 12, .int .i64 n, .int .i64 p]] w fun e w' => e = .returned (.bool (okB 12 n p)) ∧ Below w.heap.size w w' := by
  go_enter Tryz.func66, Tryz.ntmps66
  go_wp2_with (go_at_call 100; refine (impl_decok n p _).mono ?_; rintro e w' ⟨rfl, rfl⟩)
  go_ret
  exact ⟨rfl, (Below.refl _ _).alloc (Nat.le_refl _) _⟩

set_option maxHeartbeats 400000 in
theorem impl_ok13 (n p : Int) (w : World) :
    Calls Tryz.prog 66 #[.agg #[.int .i64 13, .int .i64 n, .int .i64 p]] w fun e w' => e = .returned (.bool (okB 13 n p)) ∧ Below w.heap.size w w' := by
  go_enter Tryz.func66, Tryz.ntmps66
  go_wp2
  all_goals
    go_ret
    exact ⟨ret_bool (by rw [Bool.eq_iff_iff]; simp [okB]; omega), (Below.refl _ _).alloc (Nat.le_refl _) _⟩

set_option maxHeartbeats 400000 in
theorem impl_okdev (k n p : Int) (w : World) (hk : k < 11 ∨ 13 < k) (T : KTab w) :
    Calls Tryz.prog 66 #[.agg #[.int .i64 k, .int .i64 n, .int .i64 p]] w fun e w' => e = .returned (.bool (okB k n p)) ∧ Below w.heap.size w w' := by
  have hok : okB k n p = decide (0 ≤ n ∧ n < sizeZ k ∧ p = 0) := by unfold okB; rw [if_neg (by omega), if_neg (by omega), if_neg (by omega)]
  have HK : Hid (okB k n p = decide (0 ≤ n ∧ n < sizeZ k ∧ p = 0)) := hok
  clear hok
  have b1 : (k == 11) = false := by simp; omega
  have b2 : (k == 12) = false := by simp; omega
  have b3 : (k == 13) = false := by simp; omega
  have T1 : KTab (w.alloc (.cells #[.int .i64 k, .int .i64 n, .int .i64 p] 66)) := T.alloc _
  clear hk T
  cases hp : p == 0 with
  | false =>
    go_enter Tryz.func66, Tryz.ntmps66
    go_wp2
    go_quiet (fail)
    go_wp2
    go_ret
    exact ⟨ret_bool (by rw [HK.out, Bool.eq_iff_iff]; simp at hp; simp; omega), below_drewN ((Below.refl _ _).alloc (Nat.le_refl _) _) _⟩
  | true =>
    by_cases h0 : 0 ≤ n
    · have hd : decide (0 ≤ n) = true := by simpa using h0
      go_enter Tryz.func66, Tryz.ntmps66
      go_wp2
      go_region_with (go_at_call 29; refine (sizeK k _ ?_).mono ?_; first | exact T1 | exact T1.drew; rintro e w2 ⟨rfl, hb⟩; obtain ⟨d0, d1, d2, dz⟩ := box3w w _ _ _ _ hb rfl)
      all_goals
        go_wp2
        go_ret
        exact ⟨(show _ = Ending.returned (.bool (decide (n < sizeZ k))) from rfl).trans (ret_bool (by rw [HK.out, Bool.eq_iff_iff]; simp at hp; simp; omega)),
          ((Below.refl _ w).alloc (Nat.le_refl _) _).drew.trans (hb.mono (by show w.heap.size ≤ (w.alloc _).heap.size; simp))⟩
    · have hd : decide (0 ≤ n) = false := by simpa using h0
      go_enter Tryz.func66, Tryz.ntmps66
      go_wp2
      go_quiet (fail)
      go_wp2
      go_ret
      exact ⟨ret_bool (by rw [HK.out, Bool.eq_iff_iff]; simp; omega), below_drewN ((Below.refl _ _).alloc (Nat.le_refl _) _) _⟩

theorem okK (k n p : Int) (w : World) (T : KTab w) :
    Calls Tryz.prog 66 #[.agg #[.int .i64 k, .int .i64 n, .int .i64 p]] w fun e w' => e = .returned (.bool (okB k n p)) ∧ Below w.heap.size w w' := by
  by_cases h1 : k = 11
  · subst h1; exact impl_ok11 n p w
  by_cases h2 : k = 12
  · subst h2; exact impl_ok12 n p w
  by_cases h3 : k = 13
  · subst h3; exact impl_ok13 n p w
  exact impl_okdev k n p w (by omega) T

end Go.Proofs.YtdhoimjkgicneaaGreatDoor

/- An operand in a box, and the text of an operand by its kind. -/
namespace Go.Proofs.YtdhoimjkgicneaaGreatDoor
open Go Go.RowKit

theorem box3 {w w1 : World} {a b c : Value} {t : TypeId} (hb : Below (w.alloc (.cells #[a, b, c] t)).heap.size (w.alloc (.cells #[a, b, c] t)) w1) :
    w1.cell? ⟨w.heap.size, 0, none⟩ = some a ∧ w1.cell? ⟨w.heap.size, 1, none⟩ = some b ∧ w1.cell? ⟨w.heap.size, 2, none⟩ = some c ∧ w.heap.size < w1.heap.size ∧ Below w.heap.size w w1 := by
  refine ⟨?_, ?_, ?_, ?_, ?_⟩
  · rw [hb.cell (p := ⟨w.heap.size, 0, none⟩) (by simp)]; simp
  · rw [hb.cell (p := ⟨w.heap.size, 1, none⟩) (by simp)]; simp
  · rw [hb.cell (p := ⟨w.heap.size, 2, none⟩) (by simp)]; simp
  · have := hb.size; simp at this; omega
  · exact ((Below.refl _ w).alloc (Nat.le_refl _) _).trans (hb.mono (by simp))

theorem text_no {k n p : Int} (h : okB k n p = false) : textL k n p = [] := by unfold textL; rw [if_pos h]
theorem text_int {n p : Int} (h : okB 11 n p = true) : textL 11 n p = Lib.itoa n := by unfold textL; rw [if_neg (by rw [h]; decide), if_pos rfl]
theorem text_dec {n p : Int} (h : okB 12 n p = true) : textL 12 n p = decT n p.toNat := by unfold textL; rw [if_neg (by rw [h]; decide), if_neg (by decide), if_pos rfl]
theorem text_word {n p : Int} (h : okB 13 n p = true) : textL 13 n p = wordL n := by unfold textL; rw [if_neg (by rw [h]; decide), if_neg (by decide), if_neg (by decide), if_pos rfl]
theorem text_dev {k n p : Int} (h : okB k n p = true) (hk : k < 11 ∨ 13 < k) : textL k n p = letterL k ++ Lib.itoa n := by
  unfold textL; rw [if_neg (by rw [h]; decide), if_neg (by omega), if_neg (by omega), if_neg (by omega)]

end Go.Proofs.YtdhoimjkgicneaaGreatDoor
