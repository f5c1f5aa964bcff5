/- Texts of this proof laid together: DevB, MemB, MemC. -/
import Derived.Test.YtdhoimjkgicneacGreatDoorLot6
import Derived.Deep.QuietTactic
import Derived.BigQuiet
import Derived.Test.YtdhoimjkgicneacGreatDoorLot1
import Derived.Test.YtdhoimjkgicneacGreatDoorRows
import Derived.Deep.WholeRow
import Derived.Laws.IdiomCopy
import Derived.WalkSpells
import Derived.WalkLawsBesides
/- What the small functions on operands of the specification do. -/
namespace Go.Proofs.YtdhoimjkgicneacGreatDoor
open Go Go.RowKit

attribute [local go_sem] sz1 sz2 sz3 sz4 sz5 sz6 sz7 sz8 sz9 sz10 sz11 sz12 sz13

set_option maxHeartbeats 1000000 in
theorem spec_letter (k : Int) (w : World) :
    Calls Tryz.prog 54 #[.int .i64 k] w fun e w' => e = .returned (.string ⟨(letterL k).toArray⟩) ∧ w' = w := by
  rcases kcases k with rfl | rfl | rfl | rfl | rfl | rfl | rfl | rfl | rfl | rfl | rfl | rfl | rfl | h | h
  all_goals
    first | have hs : sizeZ k = 0 := sizeZ_out (by omega) | skip
    go_enter Tryz.func54, Tryz.ntmps54
    go_wp2_with (go_at_call 52; refine (spec_size _ _).mono ?_; rintro e w' ⟨rfl, rfl⟩)
    all_goals
      go_ret
      first | exact ⟨ret_str (by decide), rfl⟩ | (rw [letterL_out (by omega)]; exact ⟨rfl, rfl⟩)

set_option maxHeartbeats 400000 in
theorem spec_ok11 (n p : Int) (w : World) :
    Calls Tryz.prog 83 #[.agg #[.int .i64 11, .int .i64 n, .int .i64 p]] w fun e w' => e = .returned (.bool (okB 11 n p)) ∧ Below w.heap.size w w' := by
    go_enter Tryz.func83, Tryz.ntmps83
    go_wp2
    all_goals
      go_ret
      exact ⟨ret_bool (by rw [Bool.eq_iff_iff]; simp [okB]; omega), (Below.refl _ _).alloc (Nat.le_refl _) _⟩

set_option maxHeartbeats 400000 in
theorem spec_ok12 (n p : Int) (w : World) :
    Calls Tryz.prog 83 #[.agg #[.int .i64 12, .int .i64 n, .int .i64 p]] w fun e w' => e = .returned (.bool (okB 12 n p)) ∧ Below w.heap.size w w' := by
    go_enter Tryz.func83, Tryz.ntmps83
    go_wp2
    all_goals
      go_ret
      refine ⟨ret_bool ?_, (Below.refl _ _).alloc (Nat.le_refl _) _⟩
      rw [Bool.eq_iff_iff]; simp [okB]; omega

set_option maxHeartbeats 400000 in
theorem spec_ok13 (n p : Int) (w : World) :
    Calls Tryz.prog 83 #[.agg #[.int .i64 13, .int .i64 n, .int .i64 p]] w fun e w' => e = .returned (.bool (okB 13 n p)) ∧ Below w.heap.size w w' := by
    go_enter Tryz.func83, Tryz.ntmps83
    go_wp2
    all_goals
      go_ret
      exact ⟨ret_bool (by rw [Bool.eq_iff_iff]; simp [okB]; omega), (Below.refl _ _).alloc (Nat.le_refl _) _⟩

end Go.Proofs.YtdhoimjkgicneacGreatDoor

/- A memory in the world: read and written whole, as the program's operations do it. -/
namespace Go.Proofs.YtdhoimjkgicneacGreatDoor
open Go Go.RowKit

theorem iMem : (Tryz.prog.info? 36).map (·.size) = some 136 := by kernel_rfl
theorem aMem : ∀ w, (isAgg 36).run Tryz.prog w = .ok true w := fun _ => by kernel_rfl
theorem sMem : ∀ w, (sizeOf 36).run Tryz.prog w = .ok 136 w := fun _ => by kernel_rfl

/-- Nothing. -/
def mem0 : MemV := ⟨0, 0, 0, 0, 0, fun _ => false, fun _ => 0, fun _ => false, fun _ => false, fun _ => 0, fun _ => 0, fun _ => 0, 0, false, false⟩

theorem zMem : ∀ w, (zeroValue 36).run Tryz.prog w = .ok (.agg mem0.row) w :=
  (zero_of_info (P := Tryz.prog) (t := 36) (v := .agg mem0.row) (n := 136) (by kernel_rfl)).1

theorem load_mem {b : Nat} {v : MemV} {w : World} (h : MemAt b v w) : (Instr.loadAt 36 (.pointer (some ⟨b, 0, none⟩))).run Tryz.prog w = .ok (.agg v.row) w := by
  simp only [Instr.loadAt, Instr.sureAddr, Sem.run_bind, Sem.run_pure, Result.andThen, loadVar, aMem, sMem, if_true, h.load]

/-- A load, a store by hand: a whole row, where the walk stands still. -/
theorem op_load {o : Oper} {a : Act} {w : World} {K : Act → World → Prop} {Q : Exit → Act → World → Prop} {t : TypeId} {p : Operand} {u : Value} (ho : o.op = .load t p)
    (h : (Instr.loadAt t (a.eval p)).run Tryz.prog w = .ok u w) (hK : K (a.put o.dst u) w) : o.wp Tryz.prog a w K Q := by
  have e : (execOp a.eval o).run Tryz.prog w = .ok (.value u) w := by
    simp only [execOp, ho, Sem.run_bind, h, Result.andThen, Sem.run_pure]
  unfold Oper.wp
  rw [e]
  exact hK
theorem op_store {o : Oper} {a : Act} {w w' : World} {K : Act → World → Prop} {Q : Exit → Act → World → Prop} {t : TypeId} {p x : Operand} (ho : o.op = .store t p x)
    (h : (Instr.storeAt t (a.eval p) (a.eval x)).run Tryz.prog w = .ok () w') (hK : K (a.put o.dst undef) w') : o.wp Tryz.prog a w K Q := by
  have e : (execOp a.eval o).run Tryz.prog w = .ok .skip w' := by
    simp only [execOp, ho, Sem.run_bind, h, Result.andThen, Sem.run_pure]
  unfold Oper.wp
  rw [e]
  exact hK

theorem list_load {ops : Array Oper} {Q : Exit → Act → World → Prop} {rest : List Oper} {o : Oper} {a : Act} {w : World} {t : TypeId} {p : Operand} {u x : Value}
    (ho : o.op = .load t p) (hx : a.eval p = x) (hg : Region.wanted o (yielded ops a.tmps) = true)
    (h : (Instr.loadAt t x).run Tryz.prog w = .ok u w) (hK : wpList Tryz.prog ops Q rest (a.put o.dst u) w) : wpList Tryz.prog ops Q (o :: rest) a w := by
  rw [wpList, if_pos hg]
  subst hx
  exact .inl (op_load ho h hK)

theorem list_store {ops : Array Oper} {Q : Exit → Act → World → Prop} {rest : List Oper} {o : Oper} {a : Act} {w w' : World} {t : TypeId} {p y : Operand} {u x : Value}
    (ho : o.op = .store t p y) (hx : a.eval p = x) (hu : a.eval y = u) (hg : Region.wanted o (yielded ops a.tmps) = true)
    (h : (Instr.storeAt t x u).run Tryz.prog w = .ok () w') (hK : wpList Tryz.prog ops Q rest (a.put o.dst undef) w') : wpList Tryz.prog ops Q (o :: rest) a w := by
  rw [wpList, if_pos hg]
  subst hx hu
  exact .inl (op_store ho h hK)

/-- A memory that is handed back out of the cells of its result. -/
theorem ret_mem {fn : Func} {R : Ending → World → Prop} {a : Act} {w : World} {b c : Nat} {v : MemV} (hf : fn.results = #[.cell c 36]) (hc : a.tmps.getD c undef = .pointer (some ⟨b, 0, none⟩))
    (hd : a.defers = []) (h : MemAt b v w) (hR : R (.returned (.agg v.row)) w) : bodyPost Tryz.prog fn R .ret a w := by
  refine ⟨hd, .agg v.row, ?_, hR⟩
  have hl : (loadVar 36 ⟨b, 0, none⟩).run Tryz.prog w = .ok (.agg v.row) w := by
    have := load_mem h
    simpa only [Instr.loadAt, Instr.sureAddr, Sem.run_bind, Sem.run_pure, Result.andThen] using this
  have hc' : a.tmps[c]?.getD undef = .pointer (some ⟨b, 0, none⟩) := by simpa using hc
  simp [results, hf, hc', asAddr, hl]

theorem row_one (v : MemV) : ∀ u ∈ v.row.toList, u.oneCell' = true := by
  intro u hu
  simp only [MemV.row, List.mem_map, List.mem_range] at hu
  obtain ⟨k, -, rfl⟩ := hu
  unfold MemV.cell
  repeat' split
  all_goals rfl

theorem store_mem {b : Nat} {v : MemV} {w : World} (v' : MemV) (h : MemAt b v w) : (Instr.storeAt 36 (.pointer (some ⟨b, 0, none⟩)) (.agg v'.row)).run Tryz.prog w = .ok () (w.setCells b 0 v'.row.toList) := by
  have hl : v'.row.toList.length = 136 := by simp [MemV.row]
  have := run_storeCells_cells (P := Tryz.prog) b 0 v'.row.toList 0 w (fun j hj => by rw [show 0 + 0 + j = j by omega, h.c j (by omega)]; rfl) (fun j hj => by rw [show 0 + 0 + j = j by omega]; exact h.f j (by omega)) (row_one v')
  simp only [Instr.storeAt, Instr.sureAddr, Sem.run_bind, Sem.run_pure, Result.andThen, storeVar, sMem, Value.cells, v'.row_size]
  simpa using this

theorem setCells_size : ∀ (vs : List Value) (b o : Nat) (w : World), (w.setCells b o vs).heap.size = w.heap.size
  | [], _, _, _ => rfl
  | u :: r, b, o, w => by
    have : (w.setCells b o (u :: r)) = (w.setCell ⟨b, o, none⟩ u).setCells b (o + 1) r := rfl
    rw [this, setCells_size r b (o + 1)]
    simp

theorem setCells_frozen : ∀ (vs : List Value) (b o : Nat) (w : World) (a : Addr), (w.setCells b o vs).frozen? a = w.frozen? a
  | [], _, _, _, _ => rfl
  | u :: r, b, o, w, a => by
    have : (w.setCells b o (u :: r)) = (w.setCell ⟨b, o, none⟩ u).setCells b (o + 1) r := rfl
    rw [this, setCells_frozen r b (o + 1), World.frozen?_setCell]

theorem setCells_below : ∀ (vs : List Value) (b o : Nat) {B : Nat} {w w' : World}, Below B w w' → B ≤ b → Below B w (w'.setCells b o vs)
  | [], _, _, _, _, _, h, _ => h
  | u :: r, b, o, B, w, w', h, hB => by
    have : (w'.setCells b o (u :: r)) = (w'.setCell ⟨b, o, none⟩ u).setCells b (o + 1) r := rfl
    rw [this]
    exact setCells_below r b (o + 1) (h.setCell (p := ⟨b, o, none⟩) hB u) hB

theorem MemAt.stored {b : Nat} {v : MemV} {w : World} (v' : MemV) (h : MemAt b v w) : MemAt b v' (w.setCells b 0 v'.row.toList) := by
  have hl : v'.row.toList.length = 136 := by simp [MemV.row]
  refine ⟨by rw [setCells_size]; exact h.z, fun k hk => ?_, fun k hk => by rw [setCells_frozen]; exact h.f k hk⟩
  have := World.cell?_setCells_in b v'.row.toList 0 w (fun j hj => by rw [Nat.zero_add, h.c j (by omega)]; rfl) k (by omega)
  rw [Nat.zero_add] at this
  rw [this]
  simp [MemV.row]

theorem MemAt.other {b c o : Nat} {v : MemV} {w : World} {vs : List Value} (h : MemAt b v w) (hn : b ≠ c) : MemAt b v (w.setCells c o vs) :=
  ⟨by rw [setCells_size]; exact h.z, fun k hk => by rw [World.cell?_setCells_out c vs o w ⟨b, k, none⟩ (fun e => absurd e hn)]; exact h.c k hk, fun k hk => by rw [setCells_frozen]; exact h.f k hk⟩

/-- One cell that is written, a real number. -/
theorem store_float {b o z : Nat} {u : Value} {w : World} (hc : w.cell? ⟨b, o, none⟩ = some u) (hf : w.frozen? ⟨b, o, none⟩ = false) :
    (store ⟨b, o, none⟩ (.float .f64 z)).run Tryz.prog w = .ok () (w.setCell ⟨b, o, none⟩ (.float .f64 z)) := by
  rw [run_store Tryz.prog w _ _ _ rfl, hc]
  simp [hf]

end Go.Proofs.YtdhoimjkgicneacGreatDoor

/- Places counted round, and bits of words: the specification's. -/
namespace Go.Proofs.YtdhoimjkgicneacGreatDoor
open Go Go.RowKit

/-- How many places there are of a kind. -/
def szR (k : Int) : Int := if k = 6 then 8 else sizeZ k
/-- The place of a device, counted round. -/
def atZ (k n : Int) : Int := if szR k = 0 then 0 else n % szR k

theorem szR_bd (k : Int) : 0 ≤ szR k ∧ szR k ≤ 64 := by
  unfold szR
  split
  · omega
  · exact sizeZ_bd k
theorem atZ_bd (k n : Int) : 0 ≤ atZ k n ∧ atZ k n ≤ 63 := by
  have := szR_bd k
  unfold atZ
  split
  · omega
  · have h1 := Int.emod_nonneg n (b := szR k) (by omega)
    have h2 := Int.emod_lt_of_pos n (b := szR k) (by omega)
    omega
theorem round_mod {n s : Int} (hs : 0 < s) : n % s = if n.tmod s < 0 then n.tmod s + s else n.tmod s := by
  by_cases hn : 0 ≤ n
  · rw [Int.tmod_eq_emod_of_nonneg hn]
    have := Int.emod_nonneg n (b := s) (by omega)
    rw [if_neg (by omega)]
  · obtain ⟨m, rfl⟩ : ∃ m, n = -m := ⟨-n, by omega⟩
    rw [Int.neg_tmod, Int.tmod_eq_emod_of_nonneg (by omega)]
    have h1 := Int.emod_nonneg m (b := s) (by omega)
    have h2 := Int.emod_lt_of_pos m hs
    by_cases h0 : m % s = 0
    · rw [h0, if_neg (by omega)]
      have : s ∣ m := Int.dvd_of_emod_eq_zero h0
      have : s ∣ -m := Int.dvd_neg.2 this
      rw [Int.emod_eq_zero_of_dvd this]
      rfl
    · rw [if_pos (by omega)]
      have e : -m = (s - m % s) + s * (-(m / s) - 1) := by
        have := Int.mul_ediv_add_emod m s
        rw [Int.mul_sub, Int.mul_neg, Int.mul_one]
        omega
      rw [e, Int.add_mul_emod_self_left, Int.emod_eq_of_lt (by omega) (by omega)]
      omega

/-- A bit of a word that is put. -/
def turnN (x k : Nat) (b : Bool) : Nat := if (x / 2 ^ k % 2 == 1) = b then x else if b then x + 2 ^ k else x - 2 ^ k

theorem div_step (x j : Nat) : x / 2 ^ j / 2 = x / 2 ^ (j + 1) := by rw [Nat.div_div_eq_div_mul, Nat.pow_succ]

set_option maxHeartbeats 400000 in
theorem spec_bit (x k : Nat) (w : World) (hx : x < 18446744073709551616) (hk : k ≤ 63) :
    Calls Tryz.prog 50 #[.int .u64 x, .int .i64 k] w fun e w' => e = .returned (.bool (x / 2 ^ k % 2 == 1)) ∧ w' = w := by
  go_enter Tryz.func50, Tryz.ntmps50
  go_wp2
  go_loop [0, 5] (fun u i => ∃ (j y : Nat), j ≤ k ∧ i = .int .i64 j ∧ u = .int .u64 y ∧ y = x / 2 ^ j ∧ y ≤ x) (fun _ i => k - (intOf i).toNat)
  case atStart => exact ⟨0, x, by omega, rfl, rfl, by simp, Nat.le_refl _⟩
  case round =>
    obtain ⟨j, y, hj, rfl, rfl, hy, hyx⟩ := hrel
    have HY : Hid (y = x / 2 ^ j) := hy
    clear hy
    by_cases hlt : j < k
    · go_wp2
      go_round
      case rel => exact ⟨j + 1, y / 2, by omega, by go_num, by go_num, by rw [HY.out, div_step], by omega⟩
      case measure => simp [intOf]; omega
    · have e : j = k := by omega
      subst e
      go_wp2
      go_ret
      refine ⟨ret_bool ?_, rfl⟩
      rw [← HY.out, Bool.eq_iff_iff]
      simp
      omega

theorem turn_lt {x k : Nat} (hx : x < 18446744073709551616) (hk : k ≤ 63) (hb : x / 2 ^ k % 2 ≠ 1) : x + 2 ^ k < 18446744073709551616 := by
  have hp : 0 < 2 ^ k := Nat.two_pow_pos k
  have h1 := Nat.div_add_mod x (2 ^ k)
  have h2 := Nat.mod_lt x hp
  obtain ⟨q, hq⟩ : ∃ q, q = x / 2 ^ k := ⟨_, rfl⟩
  rw [← hq] at h1 hb
  obtain ⟨p, hp2⟩ : ∃ p, p = 2 ^ (63 - k) := ⟨_, rfl⟩
  have hpp : 2 ^ k * (2 * p) = 18446744073709551616 := by
    rw [hp2, ← Nat.pow_succ', ← Nat.pow_add, show k + (63 - k + 1) = 64 by omega]
  have hqlt : q < 2 * p := by
    rw [hq]
    refine (Nat.div_lt_iff_lt_mul hp).2 ?_
    rw [Nat.mul_comm, hpp]; exact hx
  have hq2 : q + 2 ≤ 2 * p := by omega
  have h3 : 2 ^ k * (q + 2) ≤ 2 ^ k * (2 * p) := Nat.mul_le_mul_left _ hq2
  rw [hpp, Nat.mul_add] at h3
  omega

theorem turn_le {x k : Nat} (hb : x / 2 ^ k % 2 = 1) : 2 ^ k ≤ x := by
  apply Classical.byContradiction
  intro h
  rw [Nat.div_eq_of_lt (by omega)] at hb
  omega

theorem szR_out {k : Int} (h : k < 1 ∨ 10 < k) : szR k = 0 := by unfold szR; rw [if_neg (by omega), sizeZ_out h]
theorem tmod_bd (n : Int) {s : Int} (hs : 0 < s) : -s < n.tmod s ∧ n.tmod s < s :=
  ⟨by have := Int.tmod_lt_of_pos (-n) hs; rw [Int.neg_tmod] at this; omega, Int.tmod_lt_of_pos n hs⟩

set_option maxHeartbeats 4000000 in
theorem spec_at (k n p : Int) (w : World) :
    Calls Tryz.prog 51 #[.agg #[.int .i64 k, .int .i64 n, .int .i64 p]] w fun e w' => e = .returned (.int .i64 (atZ k n)) ∧ Below w.heap.size w w' := by
  by_cases h6 : k = 6
  · subst h6
    have e : atZ 6 n = if n.tmod 8 < 0 then n.tmod 8 + 8 else n.tmod 8 := round_mod (n := n) (s := 8) (by omega)
    rw [e]
    clear e
    have hb := tmod_bd n (s := 8) (by omega)
    go_enter Tryz.func51, Tryz.ntmps51
    go_wp2_with (go_at_call 52; refine (spec_size _ _).mono ?_; rintro e w' ⟨rfl, rfl⟩)
    all_goals
      go_ret
      exact ⟨ret_int (by rfl), (Below.refl _ _).alloc (Nat.le_refl _) _⟩
  · obtain ⟨s, hs⟩ : ∃ s, s = sizeZ k := ⟨_, rfl⟩
    have hs2 := sizeZ_bd k
    have hc : ∀ w, Calls Tryz.prog 52 #[.int .i64 k] w fun e w' => e = .returned (.int .i64 s) ∧ w' = w := fun w => hs ▸ spec_size k w
    rw [← hs] at hs2
    have ha : atZ k n = if s = 0 then 0 else n % s := by
      unfold atZ szR
      rw [if_neg h6, ← hs]
    rw [ha]
    clear ha hs
    by_cases h0 : s = 0
    · subst h0
      rw [if_pos rfl]
      go_enter Tryz.func51, Tryz.ntmps51
      go_wp2_with (go_at_call 52; refine (hc _).mono ?_; rintro e w' ⟨rfl, rfl⟩)
      all_goals
        go_ret
        exact ⟨ret_int (by rfl), (Below.refl _ _).alloc (Nat.le_refl _) _⟩
    · rw [if_neg h0, round_mod (n := n) (s := s) (by omega)]
      have hb := tmod_bd n (s := s) (by omega)
      go_enter Tryz.func51, Tryz.ntmps51
      go_wp2_with (go_at_call 52; refine (hc _).mono ?_; rintro e w' ⟨rfl, rfl⟩)
      all_goals
        go_ret
        exact ⟨ret_int (by first | rfl | rw [if_pos (by assumption)] | rw [if_neg (by assumption)]), (Below.refl _ _).alloc (Nat.le_refl _) _⟩

end Go.Proofs.YtdhoimjkgicneacGreatDoor
