/- Texts of this proof laid together: KepH, KepI. -/
import Derived.Test.YtdhoimjkgicneabLot22
import Derived.Test.YtdhoimjkgicneabLot23
/- Bytes as an array; two such arrays compared. -/
namespace Go.Proofs.Ytdhoimjkgicneab
open Go Go.RowKit

theorem eql_arr (f g : Nat → Int) (w : World) : ∃ b : Bool, (Op.equalIn 10000 105 (.agg (rowOf (fun i => .int .u8 (f i)) 134)) (.agg (rowOf (fun i => .int .u8 (g i)) 134))).run Try.prog w = .ok b w ∧ (b = true ↔ ∀ i, i < 134 → f i = g i) := by
  have e := run_equalIn_array (P := Try.prog) w 9999 (t := 105) (e := 5) (n := 134) (rowOf (fun i => .int .u8 (f i)) 134) (rowOf (fun i => .int .u8 (g i)) 134) Try.underlying105 (i := (Try.prog.info? 5).getD default) (by kernel_rfl)
  have hc : Try.prog.cellsOf 5 = 1 := by kernel_rfl
  rw [hc] at e
  obtain ⟨b, h1, h2⟩ := eqItems_iff (P := Try.prog) w 9999 5 1 (rowOf (fun i => .int .u8 (f i)) 134) (rowOf (fun i => .int .u8 (g i)) 134) (fun i => f i = g i) (List.range 134) (fun i hi => by
    have hi : i < 134 := by simpa using hi
    have c1 : (rowOf (fun i => (.int .u8 (f i) : Value)) 134)[i * 1]? = some (.int .u8 (f i)) := by rw [Nat.mul_one, rowOf_get _ hi]
    have c2 : (rowOf (fun i => (.int .u8 (g i) : Value)) 134)[i * 1]? = some (.int .u8 (g i)) := by rw [Nat.mul_one, rowOf_get _ hi]
    obtain ⟨x, y, b, g1, g2, g3, g4⟩ := eq_int (P := Try.prog) w (d := 9998) (t := 5) (by kernel_rfl) Try.underlying5 c1 c2
    refine ⟨x, y, b, g1, g2, g3, ?_⟩
    rw [g4, c1, c2]
    simp)
  exact ⟨b, e.trans h1, by rw [h2]; simp⟩

theorem eql_arr_all (f g : Nat → Int) (w0 : World) : ∃ b : Bool, (∀ w, (binOp .neq 105 (.agg (rowOf (fun i => .int .u8 (f i)) 134)) (.agg (rowOf (fun i => .int .u8 (g i)) 134))).run Try.prog w = .ok (.bool (!b)) w) ∧ (b = true ↔ ∀ i, i < 134 → f i = g i) := by
  obtain ⟨b, h1, h2⟩ := eql_arr f g w0
  refine ⟨b, fun w => ?_, h2⟩
  obtain ⟨b', g1, g2⟩ := eql_arr f g w
  have e : b = b' := by rw [Bool.eq_iff_iff, h2, g2]
  subst e
  rw [run_neq_struct, g1]
  rfl

/-- Bytes as cells. -/
def cellB (f : Nat → Nat) (i : Nat) : Value := .int .u8 ((f i : Nat) : Int)
theorem zArr : Try.zeroCells105 = rowOf (cellB fun _ => 0) 134 := by kernel_rfl
attribute [local go_sem] zArr
theorem aArr : ∀ w, (isAgg 105).run Try.prog w = .ok true w := fun _ => by kernel_rfl
theorem sArr : ∀ w, (sizeOf 105).run Try.prog w = .ok 134 w := fun _ => by kernel_rfl
theorem iU8 : (Try.prog.info? 5).map (·.size) = some 1 := by kernel_rfl

set_option maxRecDepth 100000 in
set_option maxHeartbeats 800000 in
theorem impl_array (v : Value) (xs : List Nat) (f : Nat → Nat) (w : World) (h : BytesAt v xs w) (hf : ∀ i x, xs[i]? = some x → f i = x) (hl : xs.length = 134) :
    Calls Try.prog 51 #[v] w fun e w' => e = .returned (.agg (rowOf (cellB f) 134)) ∧ Below w.heap.size w w' := by
  obtain ⟨aa, cap, rfl⟩ := h.len
  obtain ⟨b, off, rfl, hz, -⟩ := h.cellAt (i := 0) (by omega)
  rw [hl] at h ⊢
  have R1 := RowAt.alloc (cellB fun _ => 0) 134 w 105
  have R2 := RowAt.alloc (cellB fun _ => 0) 134 (w.alloc (.cells (rowOf (cellB fun _ => 0) 134) 105)) 105
  rw [show (w.alloc (.cells (rowOf (cellB fun _ => 0) 134) 105)).heap.size = w.heap.size + 1 by simp] at R2
  have b1 : Below w.heap.size w ((w.alloc (.cells (rowOf (cellB fun _ => 0) 134) 105)).alloc (.cells (rowOf (cellB fun _ => 0) 134) 105)) := ((Below.refl _ _).alloc (Nat.le_refl _) _).alloc (by simp) _
  have R1' := R1.below ((Below.refl (w.alloc (.cells (rowOf (cellB fun _ => 0) 134) 105)).heap.size _).alloc (Nat.le_refl _) (.cells (rowOf (cellB fun _ => 0) 134) 105)) (by simp)
  have hB := h.below b1 (Nat.le_refl _)
  go_enter Try.func51, Try.ntmps51
  go_upto_region 2 with fail
  generalize ((w.alloc (.cells (rowOf (cellB fun _ => 0) 134) 105)).alloc (.cells (rowOf (cellB fun _ => 0) 134) 105)) = w1 at R1' R2 b1 hB ⊢
  have CP : ∀ ty, (Builtin.copy_ #[22, 22] ty #[.slice (some ⟨w.heap.size + 1, 0, none⟩) 134 134, .slice (some ⟨b, off, none⟩) 134 cap]).run Try.prog w1 = .ok (goInt (134 : Nat)) (w1.setCells (w.heap.size + 1) 0 (rowOf (cellB f) 134).toList) := by
    intro ty
    have hl' : (rowOf (cellB f) 134).toList.length = 134 := by simp [rowOf]
    have := run_copy_cells (P := Try.prog) w1 22 22 ty 5 (w.heap.size + 1) 0 134 134 ⟨b, off, none⟩ 134 cap (rowOf (cellB f) 134).toList Try.underlying22 iU8 hl' ?_ ?_ ?_ ?_
    · rw [hl'] at this
      exact this
    · intro j u hj
      have hj2 : j < 134 := by have := (List.getElem?_eq_some_iff.1 hj).1; omega
      rw [Array.getElem?_toList, rowOf_get _ hj2] at hj
      obtain ⟨b', off', e, -, c0⟩ := hB.cellAt (i := j) (by omega)
      simp only [Option.some.injEq, Addr.mk.injEq] at e
      obtain ⟨rfl, rfl, -⟩ := e
      rw [addr_add, ← hj, c0]
      unfold cellB
      rw [hf j _ (List.getElem?_eq_getElem _)]
    · intro j hj
      rw [Nat.zero_add, R2.c0 (by omega)]
      rfl
    · intro j hj
      rw [Nat.zero_add]
      exact R2.f0 (by omega)
    · intro u hu
      rw [Array.mem_toList_iff] at hu
      obtain ⟨i, hi, rfl⟩ := Array.mem_iff_getElem.1 hu
      simp [rowOf]
      rfl
  have R3 := R2.stored (cellB f)
  have R4 := R1'.other (c := w.heap.size + 1) (q := 0) (vs := (rowOf (cellB f) 134).toList) (by omega)
  have B4 := setCells_below (rowOf (cellB f) 134).toList (w.heap.size + 1) 0 b1 (by omega)
  have L9 := load_row aArr sArr R3
  have L10 := store_row (cellB f) sArr (fun _ _ => rfl) R4
  have HR : Hid (RowAt w.heap.size 0 134 (cellB f) _ ∧ Below w.heap.size w _) := ⟨R4.stored (cellB f), setCells_below (rowOf (cellB f) 134).toList w.heap.size 0 B4 (by omega)⟩
  clear R1 R1' R2 R3 R4 B4 hB h b1
  go_upto_region 3 with (at_builtin; refine list_copy rfl (.tmp 4) (.tmp 5) rfl rfl rfl (CP _) ?_)
  clear CP
  generalize w1.setCells (w.heap.size + 1) 0 (rowOf (cellB f) 134).toList = w2 at L9 L10 HR ⊢
  go_wp2_with (first | (refine list_load (t := 105) (x := .pointer (some ⟨w.heap.size + 1, 0, none⟩)) (u := .agg (rowOf (cellB f) 134)) rfl rfl rfl L9 ?_) | refine list_store (t := 105) (x := .pointer (some ⟨w.heap.size, 0, none⟩)) (u := .agg (rowOf (cellB f) 134)) rfl rfl rfl rfl L10 ?_)
  exact ret_row (c := 2) aArr sArr rfl rfl rfl HR.out.1 ⟨rfl, HR.out.2⟩

end Go.Proofs.Ytdhoimjkgicneab

/- Bytes read as a memory by the program, cell by cell. -/
namespace Go.Proofs.Ytdhoimjkgicneab
open Go Go.RowKit

/-- What has been read so far. -/
def scanQ (f : Nat → Nat) (a a' b b1 b' c : Nat) : MemV :=
  ⟨0, 0, (scanV f).m, (scanV f).s, 0, fun i => if i < a then (scanV f).tD i else false, fun i => if i < a' then (scanV f).tC i else 0, fun i => if i < b then (scanV f).cD i else false, fun i => if i < b1 then (scanV f).cL i else false, fun i => if i < b' then (scanV f).cC i else 0,
    fun i => if i < 16 then 0 else if i < c then (scanV f).d i else 0, fun _ => 0, 0, false, false⟩

/-- The marks alone, and the steps. -/
def msV (m s : Nat) : MemV := ⟨0, 0, m, s, 0, fun _ => false, fun _ => 0, fun _ => false, fun _ => false, fun _ => 0, fun _ => 0, fun _ => 0, 0, false, false⟩


theorem put_one {b k : Nat} {v v' : MemV} {u : Value} {w : World} (h : MemAt b v w) (hk : k < 136) (hu : v'.cell k = u) (ho : ∀ j, j < 136 → j ≠ k → v'.cell j = v.cell j) : MemAt b v' (w.setCell ⟨b, k, none⟩ u) := by
  have := h.rowAt.put (k := k) (f' := v'.cell) (u := u) hk hu ho
  exact this.mem

theorem put_m {q : Nat} {w : World} (m : Nat) (h : MemAt q mem0 w) : MemAt q (msV m 0) (w.setCell ⟨q, 2, none⟩ (.int .u64 m)) :=
  put_one h (by omega) rfl fun j hj hn => cell_same _ _ hj (fun _ => rfl) (fun _ => rfl) (fun e => absurd e hn) (fun _ => rfl) (fun _ => rfl) (fun _ _ => ⟨rfl, rfl⟩) (fun _ _ => ⟨rfl, rfl, rfl⟩) (fun _ _ => rfl) (fun _ _ => rfl) (fun _ => rfl) (fun _ => rfl) (fun _ => rfl)

theorem put_s {q : Nat} {w : World} (f : Nat → Nat) (h : MemAt q (msV (scanV f).m 0) w) : MemAt q (scanQ f 0 0 0 0 0 16) (w.setCell ⟨q, 3, none⟩ (.int .u16 (scanV f).s)) :=
  put_one h (by omega) rfl fun j hj hn => cell_same _ _ hj (fun _ => rfl) (fun _ => rfl) (fun _ => rfl) (fun e => absurd e hn) (fun _ => rfl) (fun _ _ => ⟨rfl, rfl⟩) (fun _ _ => ⟨rfl, rfl, rfl⟩)
    (fun h1 h2 => by
      show (if j - 85 < 16 then 0 else if j - 85 < 16 then _ else 0) = (0 : Int)
      by_cases h : j - 85 < 16
      · rw [if_pos h]
      · rw [if_neg h, if_neg h]) (fun _ _ => rfl) (fun _ => rfl) (fun _ => rfl) (fun _ => rfl)

theorem if_step {α : Type} {i a : Nat} (hn : i ≠ a) (x y : α) : (if i < a + 1 then x else y) = if i < a then x else y := by
  by_cases h : i < a
  · rw [if_pos h, if_pos (by omega)]
  · rw [if_neg h, if_neg (by omega)]

section
variable {f : Nat → Nat} {a a' b b1 b' c q : Nat} {w : World}
theorem put_tD (h : MemAt q (scanQ f a a' b b1 b' c) w) (hk : a < 16) : MemAt q (scanQ f (a + 1) a' b b1 b' c) (w.setCell ⟨q, 5 + a * 2, none⟩ (.bool ((scanV f).tD a))) := by
  refine put_one h (by omega) ?_ fun j hj hn => ?_
  · rw [MemV.cell_tD _ _ hk]
    show Value.bool (if a < a + 1 then _ else _) = _
    rw [if_pos (by omega)]
  · by_cases hT : 5 ≤ j ∧ j < 37 ∧ (j - 5) / 2 = a
    · obtain rfl : j = 5 + a * 2 + 1 := by omega
      rw [MemV.cell_tC _ _ hk, MemV.cell_tC _ _ hk]
      rfl
    · exact cell_same _ _ hj (fun _ => rfl) (fun _ => rfl) (fun _ => rfl) (fun _ => rfl) (fun _ => rfl) (fun h1 h2 => ⟨if_step (by omega) _ _, rfl⟩) (fun _ _ => ⟨rfl, rfl, rfl⟩) (fun _ _ => rfl) (fun _ _ => rfl) (fun _ => rfl) (fun _ => rfl) (fun _ => rfl)
theorem put_tC (h : MemAt q (scanQ f a a' b b1 b' c) w) (hk : a' < 16) : MemAt q (scanQ f a (a' + 1) b b1 b' c) (w.setCell ⟨q, 5 + a' * 2 + 1, none⟩ (.int .u16 ((scanV f).tC a'))) := by
  refine put_one h (by omega) ?_ fun j hj hn => ?_
  · rw [MemV.cell_tC _ _ hk]
    show Value.int .u16 ((if a' < a' + 1 then _ else _ : Nat) : Int) = _
    rw [if_pos (by omega)]
  · by_cases hT : 5 ≤ j ∧ j < 37 ∧ (j - 5) / 2 = a'
    · obtain rfl : j = 5 + a' * 2 := by omega
      rw [MemV.cell_tD _ _ hk, MemV.cell_tD _ _ hk]
      rfl
    · exact cell_same _ _ hj (fun _ => rfl) (fun _ => rfl) (fun _ => rfl) (fun _ => rfl) (fun _ => rfl) (fun h1 h2 => ⟨rfl, if_step (by omega) _ _⟩) (fun _ _ => ⟨rfl, rfl, rfl⟩) (fun _ _ => rfl) (fun _ _ => rfl) (fun _ => rfl) (fun _ => rfl) (fun _ => rfl)
theorem put_cD (h : MemAt q (scanQ f a a' b b1 b' c) w) (hk : b < 16) : MemAt q (scanQ f a a' (b + 1) b1 b' c) (w.setCell ⟨q, 37 + b * 3, none⟩ (.bool ((scanV f).cD b))) := by
  refine put_one h (by omega) ?_ fun j hj hn => ?_
  · rw [MemV.cell_cD _ _ hk]
    show Value.bool (if b < b + 1 then _ else _) = _
    rw [if_pos (by omega)]
  · by_cases hT : 37 ≤ j ∧ j < 85 ∧ (j - 37) / 3 = b
    · have : j = 37 + b * 3 + 1 ∨ j = 37 + b * 3 + 2 := by omega
      rcases this with rfl | rfl
      · rw [MemV.cell_cL _ _ hk, MemV.cell_cL _ _ hk]
        rfl
      · rw [MemV.cell_cC _ _ hk, MemV.cell_cC _ _ hk]
        rfl
    · exact cell_same _ _ hj (fun _ => rfl) (fun _ => rfl) (fun _ => rfl) (fun _ => rfl) (fun _ => rfl) (fun h1 h2 => ⟨rfl, rfl⟩) (fun _ _ => ⟨if_step (by omega) _ _, rfl, rfl⟩) (fun _ _ => rfl) (fun _ _ => rfl) (fun _ => rfl) (fun _ => rfl) (fun _ => rfl)
theorem put_cL (h : MemAt q (scanQ f a a' b b1 b' c) w) (hk : b1 < 16) : MemAt q (scanQ f a a' b (b1 + 1) b' c) (w.setCell ⟨q, 37 + b1 * 3 + 1, none⟩ (.bool ((scanV f).cL b1))) := by
  refine put_one h (by omega) ?_ fun j hj hn => ?_
  · rw [MemV.cell_cL _ _ hk]
    show Value.bool (if b1 < b1 + 1 then _ else _) = _
    rw [if_pos (by omega)]
  · by_cases hT : 37 ≤ j ∧ j < 85 ∧ (j - 37) / 3 = b1
    · have : j = 37 + b1 * 3 ∨ j = 37 + b1 * 3 + 2 := by omega
      rcases this with rfl | rfl
      · rw [MemV.cell_cD _ _ hk, MemV.cell_cD _ _ hk]
        rfl
      · rw [MemV.cell_cC _ _ hk, MemV.cell_cC _ _ hk]
        rfl
    · exact cell_same _ _ hj (fun _ => rfl) (fun _ => rfl) (fun _ => rfl) (fun _ => rfl) (fun _ => rfl) (fun h1 h2 => ⟨rfl, rfl⟩) (fun _ _ => ⟨rfl, if_step (by omega) _ _, rfl⟩) (fun _ _ => rfl) (fun _ _ => rfl) (fun _ => rfl) (fun _ => rfl) (fun _ => rfl)
theorem put_cC (h : MemAt q (scanQ f a a' b b1 b' c) w) (hk : b' < 16) : MemAt q (scanQ f a a' b b1 (b' + 1) c) (w.setCell ⟨q, 37 + b' * 3 + 2, none⟩ (.int .u16 ((scanV f).cC b'))) := by
  refine put_one h (by omega) ?_ fun j hj hn => ?_
  · rw [MemV.cell_cC _ _ hk]
    show Value.int .u16 ((if b' < b' + 1 then _ else _ : Nat) : Int) = _
    rw [if_pos (by omega)]
  · by_cases hT : 37 ≤ j ∧ j < 85 ∧ (j - 37) / 3 = b'
    · have : j = 37 + b' * 3 ∨ j = 37 + b' * 3 + 1 := by omega
      rcases this with rfl | rfl
      · rw [MemV.cell_cD _ _ hk, MemV.cell_cD _ _ hk]
        rfl
      · rw [MemV.cell_cL _ _ hk, MemV.cell_cL _ _ hk]
        rfl
    · exact cell_same _ _ hj (fun _ => rfl) (fun _ => rfl) (fun _ => rfl) (fun _ => rfl) (fun _ => rfl) (fun h1 h2 => ⟨rfl, rfl⟩) (fun _ _ => ⟨rfl, rfl, if_step (by omega) _ _⟩) (fun _ _ => rfl) (fun _ _ => rfl) (fun _ => rfl) (fun _ => rfl) (fun _ => rfl)
theorem put_d (h : MemAt q (scanQ f a a' b b1 b' c) w) (h1 : 16 ≤ c) (hk : c < 32) : MemAt q (scanQ f a a' b b1 b' (c + 1)) (w.setCell ⟨q, 85 + c, none⟩ (.int .i16 ((scanV f).d c))) := by
  refine put_one h (by omega) ?_ fun j hj hn => ?_
  · rw [MemV.cell_d _ _ hk]
    show Value.int .i16 (if c < 16 then 0 else if c < c + 1 then _ else _) = _
    rw [if_neg (by omega), if_pos (by omega)]
  · refine cell_same _ _ hj (fun _ => rfl) (fun _ => rfl) (fun _ => rfl) (fun _ => rfl) (fun _ => rfl) (fun h1 h2 => ⟨rfl, rfl⟩) (fun _ _ => ⟨rfl, rfl, rfl⟩) (fun h3 h4 => ?_) (fun _ _ => rfl) (fun _ => rfl) (fun _ => rfl) (fun _ => rfl)
    show (if j - 85 < 16 then 0 else if j - 85 < c + 1 then _ else _) = if j - 85 < 16 then 0 else if j - 85 < c then _ else _
    rw [if_step (a := c) (by omega)]
end

theorem scan_last (f : Nat → Nat) : (scanQ f 16 16 16 16 16 32).row = (scanV f).row := by
  have e : (List.range 136).map (scanQ f 16 16 16 16 16 32).cell = (List.range 136).map (scanV f).cell := List.map_congr_left fun k hk => by
    have hk := List.mem_range.1 hk
    refine cell_same _ _ hk (fun _ => rfl) (fun _ => rfl) (fun _ => rfl) (fun _ => rfl) (fun _ => rfl) (fun h1 h2 => ⟨if_pos (by omega), if_pos (by omega)⟩) (fun _ _ => ⟨if_pos (by omega), if_pos (by omega), if_pos (by omega)⟩) (fun h1 h2 => ?_) (fun _ _ => rfl) (fun _ => rfl) (fun _ => rfl) (fun _ => rfl)
    show (if k - 85 < 16 then 0 else if k - 85 < 32 then (scanV f).d (k - 85) else 0) = (scanV f).d (k - 85)
    by_cases h : k - 85 < 16
    · rw [if_pos h, scan_d, if_pos h]
    · rw [if_neg h, if_pos (by omega)]
  unfold MemV.row
  rw [e]

theorem num2 (g : Nat → Nat) : num g 2 = g 0 + 256 * g 1 := by simp [num]; omega
theorem num4 (g : Nat → Nat) : num g 4 = g 0 + 256 * g 1 + 65536 * g 2 + 16777216 * g 3 := by simp [num]; omega

end Go.Proofs.Ytdhoimjkgicneab
