/- What the program's own small functions on operands do, where its tables lie as its text lays them. -/
import Derived.Test.YtdhoimjkgicneaaDoorDevK
import Derived.Test.YtdhoimjkgicneaaDoorShelf
namespace Go.Proofs.YtdhoimjkgicneaaDoor
open Go Go.RowKit

/-- The program's tables lie in memory as its text lays them. -/
structure Tabs (w : World) : Prop where
  zk : 3 < w.heap.size
  zw : 0 < w.heap.size
  zp : 4 < w.heap.size
  k0 : ∀ k : Nat, 1 ≤ k → k ≤ 13 → w.cell? ⟨3, k * 5, none⟩ = some (.string ⟨(letterL k).toArray⟩)
  k1 : ∀ k : Nat, 1 ≤ k → k ≤ 13 → w.cell? ⟨3, k * 5 + 1, none⟩ = some (.int .i64 (sizeZ k))
  k2 : ∀ k : Nat, 1 ≤ k → k ≤ 13 → w.cell? ⟨3, k * 5 + 2, none⟩ = some (.bool (bitB k))
  k3 : ∀ k : Nat, 1 ≤ k → k ≤ 13 → w.cell? ⟨3, k * 5 + 3, none⟩ = some (.bool (wholeB k))
  k4 : ∀ k : Nat, 1 ≤ k → k ≤ 13 → w.cell? ⟨3, k * 5 + 4, none⟩ = some (.bool (realB k))
  wd : ∀ i : Nat, i < 4 → w.cell? ⟨0, i, none⟩ = some (.string ⟨(wordL i).toArray⟩)
  tab : Lib.TabIs Tryd.prog w "internal/strconv.uint64pow10" .u64 Lib.pow10Tab

theorem gPow : Tryd.prog.globalNamed "internal/strconv.uint64pow10" = some 4 := by kernel_rfl

theorem Tabs.of_blocks {w w' : World} (T : Tabs w) (h : ∀ k, k < w.heap.size → w'.heap[k]? = w.heap[k]?) (hs : w.heap.size ≤ w'.heap.size) : Tabs w' := by
  have hc : ∀ (b o : Nat), b < w.heap.size → w'.cell? ⟨b, o, none⟩ = w.cell? ⟨b, o, none⟩ := fun b o hb => World.cell?_of_block (h b hb)
  have h1 := T.zk
  have h2 := T.zw
  have h3 := T.zp
  refine ⟨by omega, by omega, by omega, ?_, ?_, ?_, ?_, ?_, ?_, ?_⟩
  · intro k a b; rw [hc _ _ T.zk]; exact T.k0 k a b
  · intro k a b; rw [hc _ _ T.zk]; exact T.k1 k a b
  · intro k a b; rw [hc _ _ T.zk]; exact T.k2 k a b
  · intro k a b; rw [hc _ _ T.zk]; exact T.k3 k a b
  · intro k a b; rw [hc _ _ T.zk]; exact T.k4 k a b
  · intro i a; rw [hc _ _ T.zw]; exact T.wd i a
  · have ht := T.tab
    unfold Lib.TabIs World.var? at ht ⊢
    simp only [gPow, Option.bind_some] at ht ⊢
    rw [h _ T.zp]
    exact ht

theorem Tabs.below {w w' : World} {B : Nat} (T : Tabs w) (h : Below B w w') (hB : w.heap.size ≤ B) : Tabs w' :=
  T.of_blocks (fun k hk => h.block k (by omega)) h.size

theorem Tabs.alloc {w : World} (T : Tabs w) (o : Obj) : Tabs (w.alloc o) := T.below ((Below.refl w.heap.size w).alloc (Nat.le_refl _) o) (Nat.le_refl _)
theorem Tabs.drew {w : World} (T : Tabs w) : Tabs w.drew := T.below (Below.refl w.heap.size w).drew (Nat.le_refl _)
theorem Tabs.drewN {w : World} (T : Tabs w) (n : Nat) : Tabs (w.drewN n) := T.below (below_drewN (Below.refl w.heap.size w) n) (Nat.le_refl _)

theorem Tabs.kt {w : World} (T : Tabs w) : KTab w := ⟨T.zk, T.k0, T.k1, T.k2, T.k3, T.k4⟩

/-- What the table answers at a kind. -/
theorem kind_any (k : Int) (w : World) (T : Tabs w) :
    Calls Tryd.prog 112 #[.int .i64 k] w fun e w' => e = .returned (.agg #[.string ⟨(letterL k).toArray⟩, .int .i64 (sizeZ k), .bool (bitB k), .bool (wholeB k), .bool (realB k)]) ∧ Below w.heap.size w w' := kindK_any k w T.kt

attribute [local go_sem] fld0 fld1

theorem impl_size (k : Int) (w : World) (T : Tabs w) :
    Calls Tryd.prog 65 #[.int .i64 k] w fun e w' => e = .returned (.int .i64 (sizeZ k)) ∧ Below w.heap.size w w' := sizeK k w T.kt

set_option maxHeartbeats 400000 in
theorem impl_letter (k : Int) (w : World) (T : Tabs w) :
    Calls Tryd.prog 59 #[.int .i64 k] w fun e w' => e = .returned (.string ⟨(letterL k).toArray⟩) ∧ Below w.heap.size w w' := by
  go_enter Tryd.func59, Tryd.ntmps59
  go_wp2_with (go_at_call 112; refine (kind_any k _ T).mono ?_; rintro e w' ⟨rfl, hb⟩)
  go_ret
  exact ⟨rfl, hb⟩

theorem impl_ok (k n p : Int) (w : World) (T : Tabs w) :
    Calls Tryd.prog 15 #[.agg #[.int .i64 k, .int .i64 n, .int .i64 p]] w fun e w' => e = .returned (.bool (okB k n p)) ∧ Below w.heap.size w w' := okK k n p w T.kt

end Go.Proofs.YtdhoimjkgicneaaDoor
