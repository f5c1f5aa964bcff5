/- Bytes read as a memory by the program, cell by cell. -/
import Derived.Test.YtdhoimjkgicneacKepH
namespace Go.Proofs.Ytdhoimjkgicneac
open Go Go.RowKit

/-- What has been read so far. -/
def scanQ (f : Nat → Nat) (a a' b b1 b' c : Nat) : MemV :=
  ⟨0, 0, (scanV f).m, (scanV f).s, 0, fun i => if i < a then (scanV f).tD i else false, fun i => if i < a' then (scanV f).tC i else 0, fun i => if i < b then (scanV f).cD i else false, fun i => if i < b1 then (scanV f).cL i else false, fun i => if i < b' then (scanV f).cC i else 0,
    fun i => if i < 16 then 0 else if i < c then (scanV f).d i else 0, fun _ => 0, 0, false, false⟩

/-- The marks alone, and the steps. -/
def msV (m s : Nat) : MemV := ⟨0, 0, m, s, 0, fun _ => false, fun _ => 0, fun _ => false, fun _ => false, fun _ => 0, fun _ => 0, fun _ => 0, 0, false, false⟩


theorem put_one {b k : Nat} {v v' : MemV} {u : Value} {w : World} (h : MemAt b v w) (hk : k < 136) (hu : v'.cell k = u) (ho : ∀ j, j < 136 → j ≠ k → v'.cell j = v.cell j) : MemAt b v' (w.setCell ⟨b, k, none⟩ u) := by
  have := h.rowAt.put (k := k) (f' := v'.cell) (u := u) hk hu ho
  exact this.mem

theorem put_m {q : Nat} {w : World} (m : Nat) (h : MemAt q mem0 w) : MemAt q (msV m 0) (w.setCell ⟨q, 2, none⟩ (.int .u64 m)) :=
  put_one h (by omega) rfl fun j hj hn => cell_same _ _ hj (fun _ => rfl) (fun _ => rfl) (fun e => absurd e hn) (fun _ => rfl) (fun _ => rfl) (fun _ _ => ⟨rfl, rfl⟩) (fun _ _ => ⟨rfl, rfl, rfl⟩) (fun _ _ => rfl) (fun _ _ => rfl) (fun _ => rfl) (fun _ => rfl) (fun _ => rfl)

theorem put_s {q : Nat} {w : World} (f : Nat → Nat) (h : MemAt q (msV (scanV f).m 0) w) : MemAt q (scanQ f 0 0 0 0 0 16) (w.setCell ⟨q, 3, none⟩ (.int .u16 (scanV f).s)) :=
  put_one h (by omega) rfl fun j hj hn => cell_same _ _ hj (fun _ => rfl) (fun _ => rfl) (fun _ => rfl) (fun e => absurd e hn) (fun _ => rfl) (fun _ _ => ⟨rfl, rfl⟩) (fun _ _ => ⟨rfl, rfl, rfl⟩)
    (fun h1 h2 => by
      show (if j - 85 < 16 then 0 else if j - 85 < 16 then _ else 0) = (0 : Int)
      by_cases h : j - 85 < 16
      · rw [if_pos h]
      · rw [if_neg h, if_neg h]) (fun _ _ => rfl) (fun _ => rfl) (fun _ => rfl) (fun _ => rfl)

theorem if_step {α : Type} {i a : Nat} (hn : i ≠ a) (x y : α) : (if i < a + 1 then x else y) = if i < a then x else y := by
  by_cases h : i < a
  · rw [if_pos h, if_pos (by omega)]
  · rw [if_neg h, if_neg (by omega)]

section
variable {f : Nat → Nat} {a a' b b1 b' c q : Nat} {w : World}
theorem put_tD (h : MemAt q (scanQ f a a' b b1 b' c) w) (hk : a < 16) : MemAt q (scanQ f (a + 1) a' b b1 b' c) (w.setCell ⟨q, 5 + a * 2, none⟩ (.bool ((scanV f).tD a))) := by
  refine put_one h (by omega) ?_ fun j hj hn => ?_
  · rw [MemV.cell_tD _ _ hk]
    show Value.bool (if a < a + 1 then _ else _) = _
    rw [if_pos (by omega)]
  · by_cases hT : 5 ≤ j ∧ j < 37 ∧ (j - 5) / 2 = a
    · obtain rfl : j = 5 + a * 2 + 1 := by omega
      rw [MemV.cell_tC _ _ hk, MemV.cell_tC _ _ hk]
      rfl
    · exact cell_same _ _ hj (fun _ => rfl) (fun _ => rfl) (fun _ => rfl) (fun _ => rfl) (fun _ => rfl) (fun h1 h2 => ⟨if_step (by omega) _ _, rfl⟩) (fun _ _ => ⟨rfl, rfl, rfl⟩) (fun _ _ => rfl) (fun _ _ => rfl) (fun _ => rfl) (fun _ => rfl) (fun _ => rfl)
theorem put_tC (h : MemAt q (scanQ f a a' b b1 b' c) w) (hk : a' < 16) : MemAt q (scanQ f a (a' + 1) b b1 b' c) (w.setCell ⟨q, 5 + a' * 2 + 1, none⟩ (.int .u16 ((scanV f).tC a'))) := by
  refine put_one h (by omega) ?_ fun j hj hn => ?_
  · rw [MemV.cell_tC _ _ hk]
    show Value.int .u16 ((if a' < a' + 1 then _ else _ : Nat) : Int) = _
    rw [if_pos (by omega)]
  · by_cases hT : 5 ≤ j ∧ j < 37 ∧ (j - 5) / 2 = a'
    · obtain rfl : j = 5 + a' * 2 := by omega
      rw [MemV.cell_tD _ _ hk, MemV.cell_tD _ _ hk]
      rfl
    · exact cell_same _ _ hj (fun _ => rfl) (fun _ => rfl) (fun _ => rfl) (fun _ => rfl) (fun _ => rfl) (fun h1 h2 => ⟨rfl, if_step (by omega) _ _⟩) (fun _ _ => ⟨rfl, rfl, rfl⟩) (fun _ _ => rfl) (fun _ _ => rfl) (fun _ => rfl) (fun _ => rfl) (fun _ => rfl)
theorem put_cD (h : MemAt q (scanQ f a a' b b1 b' c) w) (hk : b < 16) : MemAt q (scanQ f a a' (b + 1) b1 b' c) (w.setCell ⟨q, 37 + b * 3, none⟩ (.bool ((scanV f).cD b))) := by
  refine put_one h (by omega) ?_ fun j hj hn => ?_
  · rw [MemV.cell_cD _ _ hk]
    show Value.bool (if b < b + 1 then _ else _) = _
    rw [if_pos (by omega)]
  · by_cases hT : 37 ≤ j ∧ j < 85 ∧ (j - 37) / 3 = b
    · have : j = 37 + b * 3 + 1 ∨ j = 37 + b * 3 + 2 := by omega
      rcases this with rfl | rfl
      · rw [MemV.cell_cL _ _ hk, MemV.cell_cL _ _ hk]
        rfl
      · rw [MemV.cell_cC _ _ hk, MemV.cell_cC _ _ hk]
        rfl
    · exact cell_same _ _ hj (fun _ => rfl) (fun _ => rfl) (fun _ => rfl) (fun _ => rfl) (fun _ => rfl) (fun h1 h2 => ⟨rfl, rfl⟩) (fun _ _ => ⟨if_step (by omega) _ _, rfl, rfl⟩) (fun _ _ => rfl) (fun _ _ => rfl) (fun _ => rfl) (fun _ => rfl) (fun _ => rfl)
theorem put_cL (h : MemAt q (scanQ f a a' b b1 b' c) w) (hk : b1 < 16) : MemAt q (scanQ f a a' b (b1 + 1) b' c) (w.setCell ⟨q, 37 + b1 * 3 + 1, none⟩ (.bool ((scanV f).cL b1))) := by
  refine put_one h (by omega) ?_ fun j hj hn => ?_
  · rw [MemV.cell_cL _ _ hk]
    show Value.bool (if b1 < b1 + 1 then _ else _) = _
    rw [if_pos (by omega)]
  · by_cases hT : 37 ≤ j ∧ j < 85 ∧ (j - 37) / 3 = b1
    · have : j = 37 + b1 * 3 ∨ j = 37 + b1 * 3 + 2 := by omega
      rcases this with rfl | rfl
      · rw [MemV.cell_cD _ _ hk, MemV.cell_cD _ _ hk]
        rfl
      · rw [MemV.cell_cC _ _ hk, MemV.cell_cC _ _ hk]
        rfl
    · exact cell_same _ _ hj (fun _ => rfl) (fun _ => rfl) (fun _ => rfl) (fun _ => rfl) (fun _ => rfl) (fun h1 h2 => ⟨rfl, rfl⟩) (fun _ _ => ⟨rfl, if_step (by omega) _ _, rfl⟩) (fun _ _ => rfl) (fun _ _ => rfl) (fun _ => rfl) (fun _ => rfl) (fun _ => rfl)
theorem put_cC (h : MemAt q (scanQ f a a' b b1 b' c) w) (hk : b' < 16) : MemAt q (scanQ f a a' b b1 (b' + 1) c) (w.setCell ⟨q, 37 + b' * 3 + 2, none⟩ (.int .u16 ((scanV f).cC b'))) := by
  refine put_one h (by omega) ?_ fun j hj hn => ?_
  · rw [MemV.cell_cC _ _ hk]
    show Value.int .u16 ((if b' < b' + 1 then _ else _ : Nat) : Int) = _
    rw [if_pos (by omega)]
  · by_cases hT : 37 ≤ j ∧ j < 85 ∧ (j - 37) / 3 = b'
    · have : j = 37 + b' * 3 ∨ j = 37 + b' * 3 + 1 := by omega
      rcases this with rfl | rfl
      · rw [MemV.cell_cD _ _ hk, MemV.cell_cD _ _ hk]
        rfl
      · rw [MemV.cell_cL _ _ hk, MemV.cell_cL _ _ hk]
        rfl
    · exact cell_same _ _ hj (fun _ => rfl) (fun _ => rfl) (fun _ => rfl) (fun _ => rfl) (fun _ => rfl) (fun h1 h2 => ⟨rfl, rfl⟩) (fun _ _ => ⟨rfl, rfl, if_step (by omega) _ _⟩) (fun _ _ => rfl) (fun _ _ => rfl) (fun _ => rfl) (fun _ => rfl) (fun _ => rfl)
theorem put_d (h : MemAt q (scanQ f a a' b b1 b' c) w) (h1 : 16 ≤ c) (hk : c < 32) : MemAt q (scanQ f a a' b b1 b' (c + 1)) (w.setCell ⟨q, 85 + c, none⟩ (.int .i16 ((scanV f).d c))) := by
  refine put_one h (by omega) ?_ fun j hj hn => ?_
  · rw [MemV.cell_d _ _ hk]
    show Value.int .i16 (if c < 16 then 0 else if c < c + 1 then _ else _) = _
    rw [if_neg (by omega), if_pos (by omega)]
  · refine cell_same _ _ hj (fun _ => rfl) (fun _ => rfl) (fun _ => rfl) (fun _ => rfl) (fun _ => rfl) (fun h1 h2 => ⟨rfl, rfl⟩) (fun _ _ => ⟨rfl, rfl, rfl⟩) (fun h3 h4 => ?_) (fun _ _ => rfl) (fun _ => rfl) (fun _ => rfl) (fun _ => rfl)
    show (if j - 85 < 16 then 0 else if j - 85 < c + 1 then _ else _) = if j - 85 < 16 then 0 else if j - 85 < c then _ else _
    rw [if_step (a := c) (by omega)]
end

theorem scan_last (f : Nat → Nat) : (scanQ f 16 16 16 16 16 32).row = (scanV f).row := by
  have e : (List.range 136).map (scanQ f 16 16 16 16 16 32).cell = (List.range 136).map (scanV f).cell := List.map_congr_left fun k hk => by
    have hk := List.mem_range.1 hk
    refine cell_same _ _ hk (fun _ => rfl) (fun _ => rfl) (fun _ => rfl) (fun _ => rfl) (fun _ => rfl) (fun h1 h2 => ⟨if_pos (by omega), if_pos (by omega)⟩) (fun _ _ => ⟨if_pos (by omega), if_pos (by omega), if_pos (by omega)⟩) (fun h1 h2 => ?_) (fun _ _ => rfl) (fun _ => rfl) (fun _ => rfl) (fun _ => rfl)
    show (if k - 85 < 16 then 0 else if k - 85 < 32 then (scanV f).d (k - 85) else 0) = (scanV f).d (k - 85)
    by_cases h : k - 85 < 16
    · rw [if_pos h, scan_d, if_pos h]
    · rw [if_neg h, if_pos (by omega)]
  unfold MemV.row
  rw [e]

theorem num2 (g : Nat → Nat) : num g 2 = g 0 + 256 * g 1 := by simp [num]; omega
theorem num4 (g : Nat → Nat) : num g 4 = g 0 + 256 * g 1 + 65536 * g 2 + 16777216 * g 3 := by simp [num]; omega

end Go.Proofs.Ytdhoimjkgicneac
