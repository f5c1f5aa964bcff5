/- Texts of this proof laid together: DevE, Dev1, DevK. -/
import Derived.Test.YtdhoimjkgicneaaDoorLot15
import Derived.Deep.RegionWith
import Derived.Test.YtdhoimjkgicneaaDoorLot7
/- What the program's own table of kinds answers. -/
namespace Go.Proofs.YtdhoimjkgicneaaDoor
open Go Go.RowKit

theorem box3w (w : World) (a b c : Value) (t : TypeId) {W w1 : World} (hb : Below W.heap.size W w1) (hW : W.heap = (w.alloc (.cells #[a, b, c] t)).heap) :
    w1.cell? ⟨w.heap.size, 0, none⟩ = some a ∧ w1.cell? ⟨w.heap.size, 1, none⟩ = some b ∧ w1.cell? ⟨w.heap.size, 2, none⟩ = some c ∧ w.heap.size < w1.heap.size := by
  have hz : w.heap.size < W.heap.size := by rw [hW]; simp
  have hc : ∀ i, w1.cell? ⟨w.heap.size, i, none⟩ = (w.alloc (.cells #[a, b, c] t)).cell? ⟨w.heap.size, i, none⟩ := fun i => by
    rw [hb.cell (p := ⟨w.heap.size, i, none⟩) hz]
    exact World.cell?_of_block (by rw [hW])
  refine ⟨?_, ?_, ?_, ?_⟩
  · rw [hc]; simp
  · rw [hc]; simp
  · rw [hc]; simp
  · have := hb.size; omega

theorem past {w : World} {a : Addr} {v : Value} (h : w.cell? a = some v) (hz : a.block < w.heap.size) (o : Obj) : (w.alloc o).cell? a = some v := by
  rw [← h]; exact World.cell?_of_block (w := w) (Below.heap_alloc _ _ _ hz)

set_option maxHeartbeats 400000 in
theorem kind_in (k : Nat) (w : World) (h1 : 1 ≤ k) (h2 : k ≤ 13) (s : ByteArray) (z : Int) (x y r : Bool) (hz : 3 < w.heap.size)
    (c0 : w.cell? ⟨3, k * 5, none⟩ = some (.string s)) (c1 : w.cell? ⟨3, k * 5 + 1, none⟩ = some (.int .i64 z))
    (c2 : w.cell? ⟨3, k * 5 + 2, none⟩ = some (.bool x)) (c3 : w.cell? ⟨3, k * 5 + 3, none⟩ = some (.bool y)) (c4 : w.cell? ⟨3, k * 5 + 4, none⟩ = some (.bool r)) :
    Calls Tryd.prog 112 #[.int .i64 k] w fun e w' => e = .returned (.agg #[.string s, .int .i64 z, .bool x, .bool y, .bool r]) ∧ Below w.heap.size w w' := by
  have d0 := past c0 hz
  have d1 := past c1 hz
  have d2 := past c2 hz
  have d3 := past c3 hz
  have d4 := past c4 hz
  clear c0 c1 c2 c3 c4
  go_enter Tryd.func112, Tryd.ntmps112
  go_wp2
  exact bodyPost_ret (v := .agg #[.string s, .int .i64 z, .bool x, .bool y, .bool r]) (by simp [results, Tryd.results112, go_sem]) rfl ⟨rfl, (Below.refl _ _).alloc (Nat.le_refl _) _⟩

set_option maxHeartbeats 400000 in
theorem kind_out (k : Int) (w : World) (h : k < 1 ∨ 13 < k) :
    Calls Tryd.prog 112 #[.int .i64 k] w fun e w' => e = .returned (.agg #[.string ⟨#[]⟩, .int .i64 0, .bool false, .bool false, .bool false]) ∧ Below w.heap.size w w' := by
  rcases h with h | h
  all_goals
    go_enter Tryd.func112, Tryd.ntmps112
    go_wp2
    exact bodyPost_ret (v := .agg #[.string ⟨#[]⟩, .int .i64 0, .bool false, .bool false, .bool false]) (by simp [results, Tryd.results112, go_sem]) rfl ⟨rfl, (Below.refl _ _).alloc (Nat.le_refl _) _⟩

end Go.Proofs.YtdhoimjkgicneaaDoor

/- Which kinds are bits, whole numbers and real numbers, apart from any program. -/
namespace Go.Proofs.YtdhoimjkgicneaaDoor
open Go
def bitB (k : Int) : Bool := decide (k = 1 ∨ k = 2 ∨ k = 3 ∨ k = 4 ∨ k = 6 ∨ k = 7 ∨ k = 8)
def wholeB (k : Int) : Bool := decide (k = 7 ∨ k = 8 ∨ k = 9 ∨ k = 11)
def realB (k : Int) : Bool := decide (k = 10 ∨ k = 12 ∨ k = 13)
theorem bitB_out {k : Int} (h : k < 1 ∨ 13 < k) : bitB k = false := by unfold bitB; simp; omega
theorem wholeB_out {k : Int} (h : k < 1 ∨ 13 < k) : wholeB k = false := by unfold wholeB; simp; omega
theorem realB_out {k : Int} (h : k < 1 ∨ 13 < k) : realB k = false := by unfold realB; simp; omega
end Go.Proofs.YtdhoimjkgicneaaDoor

/- What the program's own table of kinds, and whether an operand is ok, answer where that table lies as its text lays it. -/
namespace Go.Proofs.YtdhoimjkgicneaaDoor
open Go Go.RowKit

/-- The program's table of kinds lies in memory as its text lays it. -/
structure KTab (w : World) : Prop where
  zk : 3 < w.heap.size
  k0 : ∀ k : Nat, 1 ≤ k → k ≤ 13 → w.cell? ⟨3, k * 5, none⟩ = some (.string ⟨(letterL k).toArray⟩)
  k1 : ∀ k : Nat, 1 ≤ k → k ≤ 13 → w.cell? ⟨3, k * 5 + 1, none⟩ = some (.int .i64 (sizeZ k))
  k2 : ∀ k : Nat, 1 ≤ k → k ≤ 13 → w.cell? ⟨3, k * 5 + 2, none⟩ = some (.bool (bitB k))
  k3 : ∀ k : Nat, 1 ≤ k → k ≤ 13 → w.cell? ⟨3, k * 5 + 3, none⟩ = some (.bool (wholeB k))
  k4 : ∀ k : Nat, 1 ≤ k → k ≤ 13 → w.cell? ⟨3, k * 5 + 4, none⟩ = some (.bool (realB k))

theorem KTab.of_blocks {w w' : World} (T : KTab w) (h : ∀ k, k < w.heap.size → w'.heap[k]? = w.heap[k]?) (hs : w.heap.size ≤ w'.heap.size) : KTab w' := by
  have hc : ∀ (b o : Nat), b < w.heap.size → w'.cell? ⟨b, o, none⟩ = w.cell? ⟨b, o, none⟩ := fun b o hb => World.cell?_of_block (h b hb)
  have h1 := T.zk
  refine ⟨by omega, ?_, ?_, ?_, ?_, ?_⟩
  · intro k a b; rw [hc _ _ T.zk]; exact T.k0 k a b
  · intro k a b; rw [hc _ _ T.zk]; exact T.k1 k a b
  · intro k a b; rw [hc _ _ T.zk]; exact T.k2 k a b
  · intro k a b; rw [hc _ _ T.zk]; exact T.k3 k a b
  · intro k a b; rw [hc _ _ T.zk]; exact T.k4 k a b

theorem KTab.below {w w' : World} {B : Nat} (T : KTab w) (h : Below B w w') (hB : w.heap.size ≤ B) : KTab w' :=
  T.of_blocks (fun k hk => h.block k (by omega)) h.size

theorem KTab.alloc {w : World} (T : KTab w) (o : Obj) : KTab (w.alloc o) := T.below ((Below.refl w.heap.size w).alloc (Nat.le_refl _) o) (Nat.le_refl _)
theorem KTab.drew {w : World} (T : KTab w) : KTab w.drew := T.below (Below.refl w.heap.size w).drew (Nat.le_refl _)
theorem KTab.drewN {w : World} (T : KTab w) (n : Nat) : KTab (w.drewN n) := T.below (below_drewN (Below.refl w.heap.size w) n) (Nat.le_refl _)

/-- What the table answers at a kind. -/
theorem kindK_any (k : Int) (w : World) (T : KTab w) :
    Calls Tryd.prog 112 #[.int .i64 k] w fun e w' => e = .returned (.agg #[.string ⟨(letterL k).toArray⟩, .int .i64 (sizeZ k), .bool (bitB k), .bool (wholeB k), .bool (realB k)]) ∧ Below w.heap.size w w' := by
  by_cases h : 1 ≤ k ∧ k ≤ 13
  · obtain ⟨m, rfl⟩ : ∃ m : Nat, k = m := ⟨k.toNat, by omega⟩
    exact kind_in m w (by omega) (by omega) _ _ _ _ _ T.zk (T.k0 m (by omega) (by omega)) (T.k1 m (by omega) (by omega)) (T.k2 m (by omega) (by omega)) (T.k3 m (by omega) (by omega)) (T.k4 m (by omega) (by omega))
  · rw [letterL_out (by omega), sizeZ_out (by omega), bitB_out (by omega), wholeB_out (by omega), realB_out (by omega)]
    exact kind_out k w (by omega)

theorem fld0 (s : ByteArray) (z : Int) (x y r : Bool) (w : World) : (Instr.field 127 (.agg #[.string s, .int .i64 z, .bool x, .bool y, .bool r]) 0).run Tryd.prog w = .ok (.string s) w := by kernel_rfl
theorem fld1 (s : ByteArray) (z : Int) (x y r : Bool) (w : World) : (Instr.field 127 (.agg #[.string s, .int .i64 z, .bool x, .bool y, .bool r]) 1).run Tryd.prog w = .ok (.int .i64 z) w := by kernel_rfl
attribute [local go_sem] fld0 fld1

set_option maxHeartbeats 400000 in
theorem sizeK (k : Int) (w : World) (T : KTab w) :
    Calls Tryd.prog 65 #[.int .i64 k] w fun e w' => e = .returned (.int .i64 (sizeZ k)) ∧ Below w.heap.size w w' := by
  go_enter Tryd.func65, Tryd.ntmps65
  go_wp2_with (go_at_call 112; refine (kindK_any k _ T).mono ?_; rintro e w' ⟨rfl, hb⟩)
  go_ret
  exact ⟨rfl, hb⟩

set_option maxHeartbeats 400000 in
theorem impl_decok (n p : Int) (w : World) :
    Calls Tryd.prog 64 #[.int .i64 n, .int .i64 p] w fun e w' => e = .returned (.bool (okB 12 n p)) ∧ w' = w := by
  go_enter Tryd.func64, Tryd.ntmps64
  go_wp2
  all_goals
    go_ret
    exact ⟨ret_bool (by rw [Bool.eq_iff_iff]; simp [okB]; omega), rfl⟩

set_option maxHeartbeats 400000 in
theorem impl_ok11 (n p : Int) (w : World) :
    Calls Tryd.prog 15 #[.agg #[.int .i64 11, .int .i64 n, .int .i64 p]] w fun e w' => e = .returned (.bool (okB 11 n p)) ∧ Below w.heap.size w w' := by
  go_enter Tryd.func15, Tryd.ntmps15
  go_wp2
  all_goals
    go_ret
    exact ⟨ret_bool (by rw [Bool.eq_iff_iff]; simp [okB]; omega), (Below.refl _ _).alloc (Nat.le_refl _) _⟩

set_option maxHeartbeats 400000 in
theorem impl_ok12 (n p : Int) (w : World) :
    Calls Tryd.prog 15 #[.agg #[.int .i64 12, .int .i64 n, .int .i64 p]] w fun e w' => e = .returned (.bool (okB 12 n p)) ∧ Below w.heap.size w w' := by
  go_enter Tryd.func15, Tryd.ntmps15
  go_wp2_with (go_at_call 64; refine (impl_decok n p _).mono ?_; rintro e w' ⟨rfl, rfl⟩)
  go_ret
  exact ⟨rfl, (Below.refl _ _).alloc (Nat.le_refl _) _⟩

set_option maxHeartbeats 400000 in
theorem impl_ok13 (n p : Int) (w : World) :
    Calls Tryd.prog 15 #[.agg #[.int .i64 13, .int .i64 n, .int .i64 p]] w fun e w' => e = .returned (.bool (okB 13 n p)) ∧ Below w.heap.size w w' := by
  go_enter Tryd.func15, Tryd.ntmps15
  go_wp2
  all_goals
    go_ret
    exact ⟨ret_bool (by rw [Bool.eq_iff_iff]; simp [okB]; omega), (Below.refl _ _).alloc (Nat.le_refl _) _⟩

set_option maxHeartbeats 400000 in
theorem impl_okdev (k n p : Int) (w : World) (hk : k < 11 ∨ 13 < k) (T : KTab w) :
    Calls Tryd.prog 15 #[.agg #[.int .i64 k, .int .i64 n, .int .i64 p]] w fun e w' => e = .returned (.bool (okB k n p)) ∧ Below w.heap.size w w' := by
  have hok : okB k n p = decide (0 ≤ n ∧ n < sizeZ k ∧ p = 0) := by unfold okB; rw [if_neg (by omega), if_neg (by omega), if_neg (by omega)]
  have HK : Hid (okB k n p = decide (0 ≤ n ∧ n < sizeZ k ∧ p = 0)) := hok
  clear hok
  have b1 : (k == 11) = false := by simp; omega
  have b2 : (k == 12) = false := by simp; omega
  have b3 : (k == 13) = false := by simp; omega
  have T1 : KTab (w.alloc (.cells #[.int .i64 k, .int .i64 n, .int .i64 p] 24)) := T.alloc _
  clear hk T
  cases hp : p == 0 with
  | false =>
    go_enter Tryd.func15, Tryd.ntmps15
    go_wp2
    go_quiet (fail)
    go_wp2
    go_ret
    exact ⟨ret_bool (by rw [HK.out, Bool.eq_iff_iff]; simp at hp; simp; omega), below_drewN ((Below.refl _ _).alloc (Nat.le_refl _) _) _⟩
  | true =>
    by_cases h0 : 0 ≤ n
    · have hd : decide (0 ≤ n) = true := by simpa using h0
      go_enter Tryd.func15, Tryd.ntmps15
      go_wp2
      go_region_with (go_at_call 65; refine (sizeK k _ ?_).mono ?_; first | exact T1 | exact T1.drew; rintro e w2 ⟨rfl, hb⟩; obtain ⟨d0, d1, d2, dz⟩ := box3w w _ _ _ _ hb rfl)
      all_goals
        go_wp2
        go_ret
        exact ⟨(show _ = Ending.returned (.bool (decide (n < sizeZ k))) from rfl).trans (ret_bool (by rw [HK.out, Bool.eq_iff_iff]; simp at hp; simp; omega)),
          ((Below.refl _ w).alloc (Nat.le_refl _) _).drew.trans (hb.mono (by show w.heap.size ≤ (w.alloc _).heap.size; simp))⟩
    · have hd : decide (0 ≤ n) = false := by simpa using h0
      go_enter Tryd.func15, Tryd.ntmps15
      go_wp2
      go_quiet (fail)
      go_wp2
      go_ret
      exact ⟨ret_bool (by rw [HK.out, Bool.eq_iff_iff]; simp; omega), below_drewN ((Below.refl _ _).alloc (Nat.le_refl _) _) _⟩

theorem okK (k n p : Int) (w : World) (T : KTab w) :
    Calls Tryd.prog 15 #[.agg #[.int .i64 k, .int .i64 n, .int .i64 p]] w fun e w' => e = .returned (.bool (okB k n p)) ∧ Below w.heap.size w w' := by
  by_cases h1 : k = 11
  · subst h1; exact impl_ok11 n p w
  by_cases h2 : k = 12
  · subst h2; exact impl_ok12 n p w
  by_cases h3 : k = 13
  · subst h3; exact impl_ok13 n p w
  exact impl_okdev k n p w (by omega) T

end Go.Proofs.YtdhoimjkgicneaaDoor
