/- Texts of this proof laid together: DevK, Box, MemI. -/
import Derived.Test.YtdhoimjkgicneacGreatDoorLot9
import Derived.Test.YtdhoimjkgicneacGreatDoorLot6
import Derived.Below
import Derived.Test.YtdhoimjkgicneacGreatDoorLot8
/- What the program's own table of kinds, and whether an operand is ok, answer where that table lies as its text lays it. -/
namespace Go.Proofs.YtdhoimjkgicneacGreatDoor
open Go Go.RowKit

/-- The program's table of kinds lies in memory as its text lays it. -/
structure KTab (w : World) : Prop where
  zk : 5 < w.heap.size
  k0 : ∀ k : Nat, 1 ≤ k → k ≤ 13 → w.cell? ⟨5, k * 5, none⟩ = some (.string ⟨(letterL k).toArray⟩)
  k1 : ∀ k : Nat, 1 ≤ k → k ≤ 13 → w.cell? ⟨5, k * 5 + 1, none⟩ = some (.int .i64 (sizeZ k))
  k2 : ∀ k : Nat, 1 ≤ k → k ≤ 13 → w.cell? ⟨5, k * 5 + 2, none⟩ = some (.bool (bitB k))
  k3 : ∀ k : Nat, 1 ≤ k → k ≤ 13 → w.cell? ⟨5, k * 5 + 3, none⟩ = some (.bool (wholeB k))
  k4 : ∀ k : Nat, 1 ≤ k → k ≤ 13 → w.cell? ⟨5, k * 5 + 4, none⟩ = some (.bool (realB k))

theorem KTab.of_blocks {w w' : World} (T : KTab w) (h : ∀ k, k < w.heap.size → w'.heap[k]? = w.heap[k]?) (hs : w.heap.size ≤ w'.heap.size) : KTab w' := by
  have hc : ∀ (b o : Nat), b < w.heap.size → w'.cell? ⟨b, o, none⟩ = w.cell? ⟨b, o, none⟩ := fun b o hb => World.cell?_of_block (h b hb)
  have h1 := T.zk
  refine ⟨by omega, ?_, ?_, ?_, ?_, ?_⟩
  · intro k a b; rw [hc _ _ T.zk]; exact T.k0 k a b
  · intro k a b; rw [hc _ _ T.zk]; exact T.k1 k a b
  · intro k a b; rw [hc _ _ T.zk]; exact T.k2 k a b
  · intro k a b; rw [hc _ _ T.zk]; exact T.k3 k a b
  · intro k a b; rw [hc _ _ T.zk]; exact T.k4 k a b

theorem KTab.below {w w' : World} {B : Nat} (T : KTab w) (h : Below B w w') (hB : w.heap.size ≤ B) : KTab w' :=
  T.of_blocks (fun k hk => h.block k (by omega)) h.size

theorem KTab.alloc {w : World} (T : KTab w) (o : Obj) : KTab (w.alloc o) := T.below ((Below.refl w.heap.size w).alloc (Nat.le_refl _) o) (Nat.le_refl _)
theorem KTab.drew {w : World} (T : KTab w) : KTab w.drew := T.below (Below.refl w.heap.size w).drew (Nat.le_refl _)
theorem KTab.drewN {w : World} (T : KTab w) (n : Nat) : KTab (w.drewN n) := T.below (below_drewN (Below.refl w.heap.size w) n) (Nat.le_refl _)

/-- What the table answers at a kind. -/
theorem kindK_any (k : Int) (w : World) (T : KTab w) :
    Calls Tryz.prog 110 #[.int .i64 k] w fun e w' => e = .returned (.agg #[.string ⟨(letterL k).toArray⟩, .int .i64 (sizeZ k), .bool (bitB k), .bool (wholeB k), .bool (realB k)]) ∧ Below w.heap.size w w' := by
  by_cases h : 1 ≤ k ∧ k ≤ 13
  · obtain ⟨m, rfl⟩ : ∃ m : Nat, k = m := ⟨k.toNat, by omega⟩
    exact kind_in m w (by omega) (by omega) _ _ _ _ _ T.zk (T.k0 m (by omega) (by omega)) (T.k1 m (by omega) (by omega)) (T.k2 m (by omega) (by omega)) (T.k3 m (by omega) (by omega)) (T.k4 m (by omega) (by omega))
  · rw [letterL_out (by omega), sizeZ_out (by omega), bitB_out (by omega), wholeB_out (by omega), realB_out (by omega)]
    exact kind_out k w (by omega)

theorem fld0 (s : ByteArray) (z : Int) (x y r : Bool) (w : World) : (Instr.field 134 (.agg #[.string s, .int .i64 z, .bool x, .bool y, .bool r]) 0).run Tryz.prog w = .ok (.string s) w := by kernel_rfl
theorem fld1 (s : ByteArray) (z : Int) (x y r : Bool) (w : World) : (Instr.field 134 (.agg #[.string s, .int .i64 z, .bool x, .bool y, .bool r]) 1).run Tryz.prog w = .ok (.int .i64 z) w := by kernel_rfl
attribute [local go_sem] fld0 fld1

set_option maxHeartbeats 400000 in
theorem sizeK (k : Int) (w : World) (T : KTab w) :
    Calls Tryz.prog 72 #[.int .i64 k] w fun e w' => e = .returned (.int .i64 (sizeZ k)) ∧ Below w.heap.size w w' := by
  go_enter Tryz.func72, Tryz.ntmps72
  go_wp2_with (go_at_call 110; refine (kindK_any k _ T).mono ?_; rintro e w' ⟨rfl, hb⟩)
  go_ret
  exact ⟨rfl, hb⟩

set_option maxHeartbeats 400000 in
theorem impl_decok (n p : Int) (w : World) :
    Calls Tryz.prog 100 #[.int .i64 n, .int .i64 p] w fun e w' => e = .returned (.bool (okB 12 n p)) ∧ w' = w := by
  go_enter Tryz.func100, Tryz.ntmps100
  go_wp2
  all_goals
    go_ret
    exact ⟨ret_bool (by rw [Bool.eq_iff_iff]; simp [okB]; omega), rfl⟩

set_option maxHeartbeats 400000 in
theorem impl_ok11 (n p : Int) (w : World) :
    Calls Tryz.prog 63 #[.agg #[.int .i64 11, .int .i64 n, .int .i64 p]] w fun e w' => e = .returned (.bool (okB 11 n p)) ∧ Below w.heap.size w w' := by
  go_enter Tryz.func63, Tryz.ntmps63
  go_wp2
  all_goals
    go_ret
    exact ⟨ret_bool (by rw [Bool.eq_iff_iff]; simp [okB]; omega), (Below.refl _ _).alloc (Nat.le_refl _) _⟩

set_option maxHeartbeats 400000 in
theorem impl_ok12 (n p : Int) (w : World) :
    Calls Tryz.prog 63 #[.agg #[.int .i64 12, .int .i64 n, .int .i64 p]] w fun e w' => e = .returned (.bool (okB 12 n p)) ∧ Below w.heap.size w w' := by
  go_enter Tryz.func63, Tryz.ntmps63
  go_wp2_with (go_at_call 100; refine (impl_decok n p _).mono ?_; rintro e w' ⟨rfl, rfl⟩)
  go_ret
  exact ⟨rfl, (Below.refl _ _).alloc (Nat.le_refl _) _⟩

set_option maxHeartbeats 400000 in
theorem impl_ok13 (n p : Int) (w : World) :
    Calls Tryz.prog 63 #[.agg #[.int .i64 13, .int .i64 n, .int .i64 p]] w fun e w' => e = .returned (.bool (okB 13 n p)) ∧ Below w.heap.size w w' := by
  go_enter Tryz.func63, Tryz.ntmps63
  go_wp2
  all_goals
    go_ret
    exact ⟨ret_bool (by rw [Bool.eq_iff_iff]; simp [okB]; omega), (Below.refl _ _).alloc (Nat.le_refl _) _⟩

set_option maxHeartbeats 400000 in
theorem impl_okdev (k n p : Int) (w : World) (hk : k < 11 ∨ 13 < k) (T : KTab w) :
    Calls Tryz.prog 63 #[.agg #[.int .i64 k, .int .i64 n, .int .i64 p]] w fun e w' => e = .returned (.bool (okB k n p)) ∧ Below w.heap.size w w' := by
  have hok : okB k n p = decide (0 ≤ n ∧ n < sizeZ k ∧ p = 0) := by unfold okB; rw [if_neg (by omega), if_neg (by omega), if_neg (by omega)]
  have HK : Hid (okB k n p = decide (0 ≤ n ∧ n < sizeZ k ∧ p = 0)) := hok
  clear hok
  have b1 : (k == 11) = false := by simp; omega
  have b2 : (k == 12) = false := by simp; omega
  have b3 : (k == 13) = false := by simp; omega
  have T1 : KTab (w.alloc (.cells #[.int .i64 k, .int .i64 n, .int .i64 p] 55)) := T.alloc _
  clear hk T
  cases hp : p == 0 with
  | false =>
    go_enter Tryz.func63, Tryz.ntmps63
    go_wp2
    go_quiet (fail)
    go_wp2
    go_ret
    exact ⟨ret_bool (by rw [HK.out, Bool.eq_iff_iff]; simp at hp; simp; omega), below_drewN ((Below.refl _ _).alloc (Nat.le_refl _) _) _⟩
  | true =>
    by_cases h0 : 0 ≤ n
    · have hd : decide (0 ≤ n) = true := by simpa using h0
      go_enter Tryz.func63, Tryz.ntmps63
      go_wp2
      go_region_with (go_at_call 72; refine (sizeK k _ ?_).mono ?_; first | exact T1 | exact T1.drew; rintro e w2 ⟨rfl, hb⟩; obtain ⟨d0, d1, d2, dz⟩ := box3w w _ _ _ _ hb rfl)
      all_goals
        go_wp2
        go_ret
        exact ⟨(show _ = Ending.returned (.bool (decide (n < sizeZ k))) from rfl).trans (ret_bool (by rw [HK.out, Bool.eq_iff_iff]; simp at hp; simp; omega)),
          ((Below.refl _ w).alloc (Nat.le_refl _) _).drew.trans (hb.mono (by show w.heap.size ≤ (w.alloc _).heap.size; simp))⟩
    · have hd : decide (0 ≤ n) = false := by simpa using h0
      go_enter Tryz.func63, Tryz.ntmps63
      go_wp2
      go_quiet (fail)
      go_wp2
      go_ret
      exact ⟨ret_bool (by rw [HK.out, Bool.eq_iff_iff]; simp; omega), below_drewN ((Below.refl _ _).alloc (Nat.le_refl _) _) _⟩

theorem okK (k n p : Int) (w : World) (T : KTab w) :
    Calls Tryz.prog 63 #[.agg #[.int .i64 k, .int .i64 n, .int .i64 p]] w fun e w' => e = .returned (.bool (okB k n p)) ∧ Below w.heap.size w w' := by
  by_cases h1 : k = 11
  · subst h1; exact impl_ok11 n p w
  by_cases h2 : k = 12
  · subst h2; exact impl_ok12 n p w
  by_cases h3 : k = 13
  · subst h3; exact impl_ok13 n p w
  exact impl_okdev k n p w (by omega) T

end Go.Proofs.YtdhoimjkgicneacGreatDoor

/- An operand in a box, and the text of an operand by its kind. -/
namespace Go.Proofs.YtdhoimjkgicneacGreatDoor
open Go Go.RowKit

theorem box3 {w w1 : World} {a b c : Value} {t : TypeId} (hb : Below (w.alloc (.cells #[a, b, c] t)).heap.size (w.alloc (.cells #[a, b, c] t)) w1) :
    w1.cell? ⟨w.heap.size, 0, none⟩ = some a ∧ w1.cell? ⟨w.heap.size, 1, none⟩ = some b ∧ w1.cell? ⟨w.heap.size, 2, none⟩ = some c ∧ w.heap.size < w1.heap.size ∧ Below w.heap.size w w1 := by
  refine ⟨?_, ?_, ?_, ?_, ?_⟩
  · rw [hb.cell (p := ⟨w.heap.size, 0, none⟩) (by simp)]; simp
  · rw [hb.cell (p := ⟨w.heap.size, 1, none⟩) (by simp)]; simp
  · rw [hb.cell (p := ⟨w.heap.size, 2, none⟩) (by simp)]; simp
  · have := hb.size; simp at this; omega
  · exact ((Below.refl _ w).alloc (Nat.le_refl _) _).trans (hb.mono (by simp))

theorem text_no {k n p : Int} (h : okB k n p = false) : textL k n p = [] := by unfold textL; rw [if_pos h]
theorem text_int {n p : Int} (h : okB 11 n p = true) : textL 11 n p = Lib.itoa n := by unfold textL; rw [if_neg (by rw [h]; decide), if_pos rfl]
theorem text_dec {n p : Int} (h : okB 12 n p = true) : textL 12 n p = decT n p.toNat := by unfold textL; rw [if_neg (by rw [h]; decide), if_neg (by decide), if_pos rfl]
theorem text_word {n p : Int} (h : okB 13 n p = true) : textL 13 n p = wordL n := by unfold textL; rw [if_neg (by rw [h]; decide), if_neg (by decide), if_neg (by decide), if_pos rfl]
theorem text_dev {k n p : Int} (h : okB k n p = true) (hk : k < 11 ∨ 13 < k) : textL k n p = letterL k ++ Lib.itoa n := by
  unfold textL; rw [if_neg (by rw [h]; decide), if_neg (by omega), if_neg (by omega), if_neg (by omega)]

end Go.Proofs.YtdhoimjkgicneacGreatDoor

/- The program's own places, words and bits of a memory. -/
namespace Go.Proofs.YtdhoimjkgicneacGreatDoor
open Go Go.RowKit

set_option maxHeartbeats 4000000 in
theorem impl_place (k n p : Int) (w : World) (T : KTab w) :
    Calls Tryz.prog 69 #[.agg #[.int .i64 k, .int .i64 n, .int .i64 p]] w fun e w' => e = .returned (.int .i64 (atZ k n)) ∧ Below w.heap.size w w' := by
  by_cases h6 : k = 6
  · subst h6
    have e : atZ 6 n = if n.tmod 8 < 0 then n.tmod 8 + 8 else n.tmod 8 := round_mod (n := n) (s := 8) (by omega)
    rw [e]
    clear e
    have hb := tmod_bd n (s := 8) (by omega)
    go_enter Tryz.func69, Tryz.ntmps69
    go_wp2_with fail
    refine (sizeK 6 _ (T.alloc _)).mono ?_
    rintro e w1 ⟨rfl, hb1⟩
    obtain ⟨c0, c1, c2, hz, hB⟩ := box3 hb1
    go_wp2_with fail
    all_goals
      go_ret
      exact ⟨ret_int (by rfl), hB⟩
  · obtain ⟨s, hs⟩ : ∃ s, s = sizeZ k := ⟨_, rfl⟩
    have hs2 := sizeZ_bd k
    have hc : ∀ w, KTab w → Calls Tryz.prog 72 #[.int .i64 k] w fun e w' => e = .returned (.int .i64 s) ∧ Below w.heap.size w w' := fun w T => hs ▸ sizeK k w T
    rw [← hs] at hs2
    have ha : atZ k n = if s = 0 then 0 else n % s := by
      unfold atZ szR
      rw [if_neg h6, ← hs]
    rw [ha]
    clear ha hs
    by_cases h0 : s = 0
    · subst h0
      rw [if_pos rfl]
      go_enter Tryz.func69, Tryz.ntmps69
      go_wp2_with fail
      refine (hc _ (T.alloc _)).mono ?_
      rintro e w1 ⟨rfl, hb1⟩
      obtain ⟨c0, c1, c2, hz, hB⟩ := box3 hb1
      go_wp2_with fail
      all_goals
        go_ret
        exact ⟨ret_int (by rfl), hB⟩
    · rw [if_neg h0, round_mod (n := n) (s := s) (by omega)]
      have hb := tmod_bd n (s := s) (by omega)
      go_enter Tryz.func69, Tryz.ntmps69
      go_wp2_with fail
      refine (hc _ (T.alloc _)).mono ?_
      rintro e w1 ⟨rfl, hb1⟩
      obtain ⟨c0, c1, c2, hz, hB⟩ := box3 hb1
      go_wp2_with fail
      all_goals
        go_ret
        exact ⟨ret_int (by first | rfl | rw [if_pos (by assumption)] | rw [if_neg (by assumption)]), hB⟩

set_option maxHeartbeats 4000000 in
theorem impl_given (v : MemV) (k : Int) (w : World) (ht : v.time < 4294967296) :
    Calls Tryz.prog 111 #[.agg v.row, .int .i64 k] w fun e w' => e = .returned (.bool (givenB v k)) ∧ Below w.heap.size w w' := by
  have c1 := v.r133
  have c2 := v.r134
  have c3 := v.r135
  have hB : Below w.heap.size w (w.alloc (.cells v.row 36)) := (Below.refl _ _).alloc (Nat.le_refl _) _
  by_cases h0 : k = 0
  · subst h0
    go_enter Tryz.func111, Tryz.ntmps111
    go_wp2
    go_ret
    exact ⟨ret_bool rfl, hB⟩
  by_cases h2 : k = 2
  · subst h2
    go_enter Tryz.func111, Tryz.ntmps111
    go_wp2
    go_ret
    exact ⟨ret_bool rfl, hB⟩
  by_cases h3 : k = 3
  · subst h3
    go_enter Tryz.func111, Tryz.ntmps111
    go_wp2
    go_ret
    exact ⟨ret_bool rfl, hB⟩
  by_cases h4 : k = 4
  · subst h4
    go_enter Tryz.func111, Tryz.ntmps111
    go_wp2
    go_ret
    refine ⟨ret_bool ?_, hB⟩
    rw [given4, Bool.eq_iff_iff]
    simp
    omega
  rw [given_no v ⟨h0, h2, h3, h4⟩]
  go_enter Tryz.func111, Tryz.ntmps111
  go_wp2
  go_ret
  exact ⟨ret_bool rfl, hB⟩

/-- The word of a kind that is packed. -/
def wordN (v : MemV) (k : Int) : Nat := if k = 1 then v.x else if k = 2 then v.y else if k = 3 then v.m else if k = 4 then v.s else if k = 5 then v.e else 0

theorem wordN_lt (v : MemV) (k : Int) (hv : v.Ok) : wordN v k < 18446744073709551616 := by
  have h1 := hv.x
  have h2 := hv.y
  have h3 := hv.m
  have h4 := hv.s
  have h5 := hv.e
  unfold wordN
  repeat' split
  all_goals omega

set_option maxHeartbeats 4000000 in
theorem impl_word (v : MemV) (k : Int) (w : World) (hv : v.Ok) :
    Calls Tryz.prog 71 #[.agg v.row, .int .i64 k] w fun e w' => e = .returned (.int .u64 (wordN v k)) ∧ Below w.heap.size w w' := by
  have c0 := v.r0
  have c1 := v.r1
  have c2 := v.r2
  have c3 := v.r3
  have c4 := v.r4
  have b0 := hv.x
  have b1 := hv.y
  have b2 := hv.m
  have b3 := hv.s
  have b4 := hv.e
  have hB : Below w.heap.size w (w.alloc (.cells v.row 36)) := (Below.refl _ _).alloc (Nat.le_refl _) _
  by_cases h : k < 1 ∨ 5 < k
  · have e : wordN v k = 0 := by
      unfold wordN
      rw [if_neg (by omega), if_neg (by omega), if_neg (by omega), if_neg (by omega), if_neg (by omega)]
    rw [e]
    go_enter Tryz.func71, Tryz.ntmps71
    go_wp2
    go_ret
    exact ⟨ret_int rfl, hB⟩
  have : k = 1 ∨ k = 2 ∨ k = 3 ∨ k = 4 ∨ k = 5 := by omega
  rcases this with rfl | rfl | rfl | rfl | rfl
  all_goals
    go_enter Tryz.func71, Tryz.ntmps71
    go_wp2
    go_ret
    exact ⟨ret_int rfl, hB⟩

theorem place_nat (k n p : Int) : ∃ j : Nat, atZ k n = j ∧ j ≤ 63 ∧ ∀ w, KTab w → Calls Tryz.prog 69 #[.agg #[.int .i64 k, .int .i64 n, .int .i64 p]] w fun e w' => e = .returned (.int .i64 j) ∧ Below w.heap.size w w' := by
  have hz := atZ_bd k n
  obtain ⟨j, hj⟩ : ∃ j : Nat, atZ k n = j := ⟨(atZ k n).toNat, by omega⟩
  exact ⟨j, hj, by omega, fun w T => hj ▸ impl_place k n p w T⟩

theorem mbit_word (v : MemV) (k n : Int) (j : Nat) (hj : atZ k n = j) (h : k ≠ 6 ∧ k ≠ 7 ∧ k ≠ 8) : mbit v k n = (wordN v k / 2 ^ j % 2 == 1) := by
  unfold mbit wordN
  rw [hj]
  by_cases h1 : k = 1
  · rw [if_pos h1, if_pos h1]; rfl
  rw [if_neg h1, if_neg h1]
  by_cases h2 : k = 2
  · rw [if_pos h2, if_pos h2]; rfl
  rw [if_neg h2, if_neg h2]
  by_cases h3 : k = 3
  · rw [if_pos h3, if_pos h3]; rfl
  rw [if_neg h3, if_neg h3]
  by_cases h4 : k = 4
  · rw [if_pos h4, if_pos h4]; rfl
  rw [if_neg h4, if_neg h4]
  by_cases h5 : k = 5
  · rw [if_pos h5, if_pos h5]; rfl
  rw [if_neg h5, if_neg h5, if_neg h.1, if_neg h.2.1, if_neg h.2.2]
  simp

set_option maxRecDepth 100000 in
set_option maxHeartbeats 4000000 in
theorem impl_membit0 (v : MemV) (k n p : Int) (w : World) (hv : v.Ok) (T : KTab w) (h : k ≠ 6 ∧ k ≠ 7 ∧ k ≠ 8) :
    Calls Tryz.prog 73 #[.agg v.row, .agg #[.int .i64 k, .int .i64 n, .int .i64 p]] w fun e w' => e = .returned (.bool (mbit v k n)) ∧ Below w.heap.size w w' := by
  obtain ⟨j, hj, hz, hc⟩ := place_nat k n p
  rw [mbit_word v k n j hj h]
  clear hj
  have h6 : (k == 6) = false := by simp; omega
  have h7 : (k == 7) = false := by simp; omega
  have h8 : (k == 8) = false := by simp; omega
  have hx := wordN_lt v k hv
  obtain ⟨x, ex⟩ : ∃ x, x = wordN v k := ⟨_, rfl⟩
  have hw : ∀ w, Calls Tryz.prog 71 #[.agg v.row, .int .i64 k] w fun e w' => e = .returned (.int .u64 x) ∧ Below w.heap.size w w' := fun w => ex ▸ impl_word v k w hv
  rw [← ex] at hx ⊢
  clear ex
  obtain ⟨y, ey⟩ : ∃ y, y = x / 2 ^ j := ⟨_, rfl⟩
  have ey2 : (x : Int) / 2 ^ j = (y : Int) := by rw [ey, shr_bit]
  have hy : y < 18446744073709551616 := by rw [ey]; exact Nat.lt_of_le_of_lt (Nat.div_le_self _ _) hx
  have ha := and_one y hy
  rw [← ey]
  have HY : Hid ((x : Int) / 2 ^ j = (y : Int)) := ey2
  clear ey ey2
  go_enter Tryz.func73, Tryz.ntmps73
  go_wp2_with fail
  refine (hc _ ((T.alloc _).alloc _)).mono ?_
  rintro e w1 ⟨rfl, hB⟩
  obtain ⟨hA, hC, hB⟩ := two_boxes v w w1 _ _ _ hB
  have d0 := hC 0 _ rfl
  go_wp2_with (refine list_load (t := 36) rfl rfl rfl (load_mem hA) ?_)
  refine (hw _).mono ?_
  rintro e w2 ⟨rfl, hB2⟩
  have hB := hB.trans (hB2.mono hB.size)
  go_wp2_with fail
  go_ret
  refine ⟨ret_bool ?_, hB⟩
  rw [HY.out, ha]
  rw [Bool.eq_iff_iff]
  simp
  omega

set_option maxRecDepth 100000 in
set_option maxHeartbeats 4000000 in
theorem impl_membit6 (v : MemV) (n p : Int) (w : World) (hv : v.Ok) (T : KTab w) :
    Calls Tryz.prog 73 #[.agg v.row, .agg #[.int .i64 6, .int .i64 n, .int .i64 p]] w fun e w' => e = .returned (.bool (mbit v 6 n)) ∧ Below w.heap.size w w' := by
  obtain ⟨j, hj, hz, hc⟩ := place_nat 6 n p
  have e : mbit v 6 n = givenB v j := by unfold mbit; rw [hj]; rfl
  rw [e]
  clear e hj
  go_enter Tryz.func73, Tryz.ntmps73
  go_wp2_with fail
  refine (hc _ ((T.alloc _).alloc _)).mono ?_
  rintro e w1 ⟨rfl, hB⟩
  obtain ⟨hA, hC, hB⟩ := two_boxes v w w1 _ _ _ hB
  have d0 := hC 0 _ rfl
  go_wp2_with (refine list_load (t := 36) rfl rfl rfl (load_mem hA) ?_)
  refine (impl_given v j _ hv.time).mono ?_
  rintro e w2 ⟨rfl, hB2⟩
  have hB := hB.trans (hB2.mono hB.size)
  go_wp2_with fail
  go_ret
  exact ⟨rfl, hB⟩

set_option maxHeartbeats 4000000 in
theorem impl_membit7 (v : MemV) (n p : Int) (w : World) (T : KTab w) :
    Calls Tryz.prog 73 #[.agg v.row, .agg #[.int .i64 7, .int .i64 n, .int .i64 p]] w fun e w' => e = .returned (.bool (mbit v 7 n)) ∧ Below w.heap.size w w' := by
  obtain ⟨j, hj, hz, hc⟩ := place_nat 7 n p
  have e : mbit v 7 n = v.tD j := by unfold mbit; rw [hj]; rfl
  have h16 := atZ_lt (k := 7) (n := n) (s := 16) rfl (by omega)
  rw [hj] at h16
  rw [e]
  clear e hj
  have hlt : j < 16 := by omega
  go_enter Tryz.func73, Tryz.ntmps73
  go_wp2_with fail
  refine (hc _ ((T.alloc _).alloc _)).mono ?_
  rintro e w1 ⟨rfl, hB⟩
  obtain ⟨hA, hC, hB⟩ := two_boxes v w w1 _ _ _ hB
  have c0 := hA.c (5 + j * 2) (by omega)
  rw [MemV.cell_tD v j hlt] at c0
  have d0 := hC 0 _ rfl
  go_wp2_with fail
  go_ret
  exact ⟨rfl, hB⟩

set_option maxHeartbeats 4000000 in
theorem impl_membit8 (v : MemV) (n p : Int) (w : World) (T : KTab w) :
    Calls Tryz.prog 73 #[.agg v.row, .agg #[.int .i64 8, .int .i64 n, .int .i64 p]] w fun e w' => e = .returned (.bool (mbit v 8 n)) ∧ Below w.heap.size w w' := by
  obtain ⟨j, hj, hz, hc⟩ := place_nat 8 n p
  have e : mbit v 8 n = v.cD j := by unfold mbit; rw [hj]; rfl
  have h16 := atZ_lt (k := 8) (n := n) (s := 16) rfl (by omega)
  rw [hj] at h16
  rw [e]
  clear e hj
  have hlt : j < 16 := by omega
  go_enter Tryz.func73, Tryz.ntmps73
  go_wp2_with fail
  refine (hc _ ((T.alloc _).alloc _)).mono ?_
  rintro e w1 ⟨rfl, hB⟩
  obtain ⟨hA, hC, hB⟩ := two_boxes v w w1 _ _ _ hB
  have c0 := hA.c (37 + j * 3) (by omega)
  rw [MemV.cell_cD v j hlt] at c0
  have d0 := hC 0 _ rfl
  go_wp2_with fail
  go_ret
  exact ⟨rfl, hB⟩

theorem impl_membit (v : MemV) (k n p : Int) (w : World) (hv : v.Ok) (T : KTab w) :
    Calls Tryz.prog 73 #[.agg v.row, .agg #[.int .i64 k, .int .i64 n, .int .i64 p]] w fun e w' => e = .returned (.bool (mbit v k n)) ∧ Below w.heap.size w w' := by
  by_cases h : k ≠ 6 ∧ k ≠ 7 ∧ k ≠ 8
  · exact impl_membit0 v k n p w hv T h
  have : k = 6 ∨ k = 7 ∨ k = 8 := by omega
  rcases this with rfl | rfl | rfl
  · exact impl_membit6 v n p w hv T
  · exact impl_membit7 v n p w T
  · exact impl_membit8 v n p w T

end Go.Proofs.YtdhoimjkgicneacGreatDoor
