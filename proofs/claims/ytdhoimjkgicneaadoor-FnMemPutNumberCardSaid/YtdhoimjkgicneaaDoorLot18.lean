/- Texts of this proof laid together: MemF0, NumA. -/
import Derived.Test.YtdhoimjkgicneaaDoorLot17
import Derived.Test.YtdhoimjkgicneaaDoorLot2
import Derived.Test.YtdhoimjkgicneaaDoorLot6
import Derived.Test.YtdhoimjkgicneaaDoorLot4
import Derived.Test.YtdhoimjkgicneaaDoorLot5
/- A memory with a bit put; boxes of a memory, an operand and an answer. -/
namespace Go.Proofs.YtdhoimjkgicneaaDoor
open Go Go.RowKit

theorem turn_small {x k s : Nat} (hx : x < 2 ^ s) (hk : k < s) (b : Bool) : turnN x k b < 2 ^ s := by
  unfold turnN
  split
  · exact hx
  · rename_i hb
    cases b with
    | false =>
      rw [if_neg (by decide)]
      exact Nat.lt_of_le_of_lt (Nat.sub_le _ _) hx
    | true =>
      rw [if_pos rfl]
      have hb : x / 2 ^ k % 2 ≠ 1 := by intro h; apply hb; simp [h]
      have hp : 0 < 2 ^ k := Nat.two_pow_pos k
      have h1 := Nat.div_add_mod x (2 ^ k)
      have h2 := Nat.mod_lt x hp
      obtain ⟨q, hq⟩ : ∃ q, q = x / 2 ^ k := ⟨_, rfl⟩
      rw [← hq] at h1 hb
      obtain ⟨p, hp2⟩ : ∃ p, p = 2 ^ (s - 1 - k) := ⟨_, rfl⟩
      have hpp : 2 ^ k * (2 * p) = 2 ^ s := by
        rw [hp2, ← Nat.pow_succ', ← Nat.pow_add, show k + (s - 1 - k + 1) = s by omega]
      have hqlt : q < 2 * p := by
        rw [hq]
        refine (Nat.div_lt_iff_lt_mul hp).2 ?_
        rw [Nat.mul_comm, hpp]; exact hx
      have hq2 : q + 2 ≤ 2 * p := by omega
      have h3 : 2 ^ k * (q + 2) ≤ 2 ^ k * (2 * p) := Nat.mul_le_mul_left _ hq2
      rw [hpp, Nat.mul_add] at h3
      omega

theorem three_boxes (v : MemV) (w w1 : World) (cs : Array Value) (t1 t2 t3 : TypeId)
    (hB : Below (((w.alloc (.cells v.row t1)).alloc (.cells cs t2)).alloc (.cells Tryd.zeroCells61 t3)).heap.size (((w.alloc (.cells v.row t1)).alloc (.cells cs t2)).alloc (.cells Tryd.zeroCells61 t3)) w1) :
    MemAt w.heap.size v w1 ∧ MemAt (w.heap.size + 1 + 1) mem0 w1 ∧ (∀ k c, cs[k]? = some c → w1.cell? ⟨w.heap.size + 1, k, none⟩ = some c) ∧ Below w.heap.size w w1 := by
  rw [zero_row] at hB
  have h1 : Below (w.heap.size + 1) (w.alloc (.cells v.row t1)) ((w.alloc (.cells v.row t1)).alloc (.cells cs t2)) := (Below.refl _ _).alloc (by simp) _
  have h2 : Below (w.heap.size + 2) ((w.alloc (.cells v.row t1)).alloc (.cells cs t2)) (((w.alloc (.cells v.row t1)).alloc (.cells cs t2)).alloc (.cells mem0.row t3)) := (Below.refl _ _).alloc (by simp) _
  refine ⟨((((MemAt.alloc v w t1).below h1 (by omega)).below h2 (by omega)).below hB (by simp; omega)), ?_, fun k c hk => ?_, ?_⟩
  · have := (MemAt.alloc mem0 ((w.alloc (.cells v.row t1)).alloc (.cells cs t2)) t3).below hB (by simp)
    simpa using this
  · rw [hB.cell (p := ⟨w.heap.size + 1, k, none⟩) (by simp), h2.cell (p := ⟨w.heap.size + 1, k, none⟩) (by simp)]
    simp [hk]
  · exact ((((Below.refl w.heap.size w).alloc (Nat.le_refl _) _).alloc (by simp) _).alloc (by simp; omega) _).trans (hB.mono (by simp; omega))

/-- A memory in which a bit is put. -/
def putV (v : MemV) (k n : Int) (b : Bool) : MemV :=
  if k = 2 then { v with y := turnN v.y (atZ k n).toNat b } else if k = 3 then { v with m := turnN v.m (atZ k n).toNat b }
  else if k = 4 then { v with s := turnN v.s (atZ k n).toNat b } else if k = 5 then { v with e := turnN v.e (atZ k n).toNat b } else v

end Go.Proofs.YtdhoimjkgicneaaDoor

/- Drawn tests and whole numbers: that each draw ends, answers, and turns nothing but the reader. -/
namespace Go.Proofs.YtdhoimjkgicneaaDoor
open Go Go.RowKit

set_option maxHeartbeats 400000 in
theorem op_any (R c : Nat) (w : World) (h : Rd R c w) (hc : c ≤ 900) :
    Calls Tryd.prog 70 #[.pointer (some ⟨R, 0, none⟩)] w fun e w' => ∃ z : Int, e = .returned (.int .i64 z) ∧ Rd R (c + 2) w' ∧ Moved R w w' := by
  go_enter Tryd.func70, Tryd.ntmps70
  go_wp2_with fail
  refine (pick_any R c 16 w h (by omega) (by omega)).mono ?_
  rintro e w1 ⟨x, rfl, x0, -, -, rd1, mv1⟩
  clear h
  cases hx : x == 0 with
  | true =>
    go_wp2_with fail
    refine (num_lit R (c + 1) _ _ _ (by simp) rd1 (by omega) (by simp) (by simp) (by simp) 5 rfl).mono ?_
    rintro e w2 ⟨z, rfl, rd2, mv2⟩
    clear rd1
    go_wp2
    go_ret
    exact ⟨z, rfl, rd2, mv1.trans mv2⟩
  | false =>
    go_wp2_with fail
    refine (pick_any R (c + 1) 6 w1 rd1 (by omega) (by omega)).mono ?_
    rintro e w2 ⟨y, rfl, y0, y1, -, rd2, mv2⟩
    have hy : y < 6 := y1 (by omega)
    clear rd1 y1
    go_wp2
    go_ret
    exact ⟨_, rfl, rd2, mv1.trans mv2⟩

end Go.Proofs.YtdhoimjkgicneaaDoor
