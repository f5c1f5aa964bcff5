/- Texts of this proof laid together: KepA, RegB. -/
import Derived.Test.YtdhoimjkgicneabLot16
import Derived.Deep.Cut
import Derived.Test.YtdhoimjkgicneabLot1
import Derived.Deep.QuietTactic
import Derived.BigQuiet
/- Numbers put behind bytes, as the program and the specification put them. -/
namespace Go.Proofs.Ytdhoimjkgicneab
open Go Go.RowKit

/-- A number as bytes, the lowest first. -/
def le : Nat → Nat → List Nat
  | 0, _ => []
  | n + 1, v => v % 256 :: le n (v / 256)

theorem le_len : ∀ n v, (le n v).length = n
  | 0, _ => rfl
  | n + 1, v => by simp [le, le_len n]
theorem le_snoc : ∀ (n v : Nat), le n v ++ [v / 256 ^ n % 256] = le (n + 1) v
  | 0, v => by simp [le]
  | n + 1, v => by
    have := le_snoc n (v / 256)
    rw [Nat.div_div_eq_div_mul, show 256 * 256 ^ n = 256 ^ (n + 1) by rw [Nat.pow_succ, Nat.mul_comm]] at this
    rw [show le (n + 1) v = v % 256 :: le n (v / 256) from rfl, List.cons_append, this]
    rfl
theorem le_le : ∀ (n v : Nat), ∀ x ∈ le n v, x ≤ 255
  | 0, _, x, h => by simp [le] at h
  | n + 1, v, x, h => by
    simp only [le, List.mem_cons] at h
    rcases h with rfl | h
    · omega
    · exact le_le n (v / 256) x h

theorem low_of (u : Nat) : ∃ y : Nat, u % 256 = y ∧ (u : Int) % 256 = (y : Int) ∧ (y : Int) % 256 = (y : Int) ∧ IntKind.u8.wrap (y : Int) = (y : Int) :=
  ⟨u % 256, rfl, by omega, by omega, by show ((u % 256 : Nat) : Int) % 256 = _; omega⟩
theorem high_of {u : Nat} (h : u < 18446744073709551616) : ∃ q : Nat, u / 256 = q ∧ (u : Int) / 256 = (q : Int) ∧ q < 18446744073709551616 := ⟨u / 256, rfl, by omega, by omega⟩

/-- While a number is put: what is out, what is left. -/
structure Putting (base : Nat) (xs : List Nat) (w wr : World) (o : Value) : Prop where
  own : Own base o xs wr
  b : Below base w wr
  z : base ≤ wr.heap.size

theorem Putting.more {base : Nat} {xs : List Nat} {w wr w' : World} {o o' : Value} {y : Nat} (h : Putting base xs w wr o) (t : TypeId) (c : Array Value)
    (ho : Own base o' (xs ++ [y]) w') (hg : (wr.alloc (.cells c t)).grownBy w' o.ownBlock) : Putting base (xs ++ [y]) w w' o' := by
  have h1 : Below base w (wr.alloc (.cells c t)) := h.b.alloc h.z _
  have h2 : Below base (wr.alloc (.cells c t)) w' := grown_below hg (by have := h.z; simp; omega) (fun g e => (World.ownsRow.lt h.own g e).1)
  refine ⟨ho, h1.trans h2, ?_⟩
  have := hg.size
  have := h.z
  simp at *
  omega

set_option maxRecDepth 100000 in
set_option maxHeartbeats 800000 in
theorem spec_put (base n v : Nat) (o : Value) (xs : List Nat) (w : World) (ho : Own base o xs w) (hv : v < 18446744073709551616) (hn : n ≤ 8) (hx : xs.length ≤ 1000) (hz : base ≤ w.heap.size) :
    Calls Try.prog 76 #[o, .int .u64 v, .int .i64 n] w fun e w' => ∃ o', e = .returned o' ∧ Putting base (xs ++ le n v) w w' o' := by
  have I0 : Hid (Own base o xs w) := ho
  obtain ⟨ao, cap, rfl⟩ := own_size ho
  clear ho
  go_enter Try.func76, Try.ntmps76
  go_wp2_with fail
  go_loopw [0, 1, 7] (fun ov vv iv wr => ∃ i ys u, i ≤ n ∧ iv = .int .i64 (i : Nat) ∧ vv = .int .u64 (u : Nat) ∧ u < 18446744073709551616 ∧ ys.length = xs.length + i ∧ ys ++ le (n - i) u = xs ++ le n v ∧ Putting base ys w wr ov) (fun _ _ iv _ => n - (intOf iv).toNat)
  case atStart => exact ⟨0, xs, v, by omega, rfl, rfl, hv, by omega, by simp, I0.out, Below.refl _ _, hz⟩
  case round =>
    clear I0
    obtain ⟨i, ys, u, hi, rfl, rfl, hu, hl, he, P⟩ := hrel
    have HP : Hid (Putting base ys w wr u0) := P
    have HE : Hid (ys ++ le (n - i) u = xs ++ le n v) := he
    have z := P.z
    clear P he
    by_cases hin : i < n
    · have hin' : (i : Int) < (n : Int) := by omega
      obtain ⟨y, hy, q1, q2, q3⟩ := low_of u
      obtain ⟨q, hq, q4, q5⟩ := high_of hu
      go_wp2_with (at_builtin; refine list_app base (v := u0) (s := .slice (some ⟨wr.heap.size, 0, none⟩) 1 1) (xs := ys) (ys := [y]) rfl (.tmp 13) (.tmp 17) rfl rfl rfl (World.ownsRow.alloc HP.out.own _) ?c1 (by simp; omega) (by simp; omega) ?_)
      case c1 => exact (bytes_one y wr 5 1).resolve_right (by simp)
      intro v3 w3 o3 g3 a3
      have HN : Hid (Putting base (ys ++ [y]) w w3 v3) := HP.out.more _ _ o3 g3
      clear o3 g3 a3
      go_wp2_with fail
      go_roundw
      case rel => exact ⟨i + 1, ys ++ [y], q, by omega, by go_num, rfl, q5, by simp; omega, by rw [← HE.out, show n - i = n - (i + 1) + 1 by omega, show le (n - (i + 1) + 1) u = u % 256 :: le (n - (i + 1)) (u / 256) from rfl, hy, hq]; simp, HN.out⟩
      case measure => simp [intOf]; omega
    · obtain rfl : i = n := by omega
      have hin' : ¬ (i : Int) < (i : Int) := by omega
      have e0 : ys = xs ++ le i v := by have := HE.out; rwa [Nat.sub_self, show le 0 u = [] from rfl, List.append_nil] at this
      subst e0
      go_wp2_with fail
      go_ret
      exact ⟨_, rfl, HP.out⟩

/-- A program's number put behind bytes, of two. -/
theorem width2 (w : World) : Calls Try.prog 71 #[] w fun e w' => e = .returned (.int .i64 2) ∧ w' = w := by
  go_enter Try.func71, Try.ntmps71
  go_wp2_with fail
  go_loopw [1, 2] (fun iv rv wr => wr = w ∧ ∃ i : Nat, i ≤ 2 ∧ iv = .int .i64 (i : Nat) ∧ rv = .int .u16 ((65535 / 256 ^ i : Nat) : Int)) (fun iv _ _ => 2 - (intOf iv).toNat)
  case atStart => exact ⟨rfl, 0, by omega, rfl, rfl⟩
  case round =>
    obtain ⟨rfl, i, hi, rfl, rfl⟩ := hrel
    have hi : i = 0 ∨ i = 1 ∨ i = 2 := by omega
    rcases hi with rfl | rfl | rfl
    · go_wp2_with fail
      go_roundw
      case rel => exact ⟨trivial, 1, by omega, rfl, rfl⟩
      case measure => simp [intOf]
    · go_wp2_with fail
      go_roundw
      case rel => exact ⟨trivial, 2, by omega, rfl, rfl⟩
      case measure => simp [intOf]
    · go_wp2_with fail
      go_ret
      exact ⟨rfl, rfl⟩

/-- A program's number put behind bytes, of four. -/
theorem width4 (w : World) : Calls Try.prog 70 #[] w fun e w' => e = .returned (.int .i64 4) ∧ w' = w := by
  go_enter Try.func70, Try.ntmps70
  go_wp2_with fail
  go_loopw [1, 2] (fun iv rv wr => wr = w ∧ ∃ i : Nat, i ≤ 4 ∧ iv = .int .i64 (i : Nat) ∧ rv = .int .u32 ((4294967295 / 256 ^ i : Nat) : Int)) (fun iv _ _ => 4 - (intOf iv).toNat)
  case atStart => exact ⟨rfl, 0, by omega, rfl, rfl⟩
  case round =>
    obtain ⟨rfl, i, hi, rfl, rfl⟩ := hrel
    have hi : i = 0 ∨ i = 1 ∨ i = 2 ∨ i = 3 ∨ i = 4 := by omega
    rcases hi with rfl | rfl | rfl | rfl | rfl
    · go_wp2_with fail
      go_roundw
      case rel => exact ⟨trivial, 1, by omega, rfl, rfl⟩
      case measure => simp [intOf]
    · go_wp2_with fail
      go_roundw
      case rel => exact ⟨trivial, 2, by omega, rfl, rfl⟩
      case measure => simp [intOf]
    · go_wp2_with fail
      go_roundw
      case rel => exact ⟨trivial, 3, by omega, rfl, rfl⟩
      case measure => simp [intOf]
    · go_wp2_with fail
      go_roundw
      case rel => exact ⟨trivial, 4, by omega, rfl, rfl⟩
      case measure => simp [intOf]
    · go_wp2_with fail
      go_ret
      exact ⟨rfl, rfl⟩

theorem shr_of (v i : Nat) : ∃ y q s : Nat, v / 256 ^ i % 256 = y ∧ s = 8 * i ∧ (8 * (i : Int)) = (s : Int) ∧ (v : Int) / 2 ^ s = (q : Int) ∧ (q : Int) % 256 = (y : Int) ∧ IntKind.u8.wrap (q : Int) = (y : Int) := by
  have e : 2 ^ (8 * i) = 256 ^ i := by rw [Nat.pow_mul]
  refine ⟨_, v / 256 ^ i, 8 * i, rfl, rfl, by omega, ?_, by omega, by show ((v / 256 ^ i : Nat) : Int) % 256 = _; omega⟩
  rw [← e]
  simp

set_option maxRecDepth 100000 in
set_option maxHeartbeats 800000 in
theorem out2 (base v : Nat) (o : Value) (xs : List Nat) (w : World) (ho : Own base o xs w) (hx : xs.length ≤ 1000) (hz : base ≤ w.heap.size) :
    Calls Try.prog 48 #[o, .int .u16 v] w fun e w' => ∃ o', e = .returned o' ∧ Putting base (xs ++ le 2 v) w w' o' := by
  have I0 : Hid (Own base o xs w) := ho
  obtain ⟨ao, cap, rfl⟩ := own_size ho
  clear ho
  go_enter Try.func48, Try.ntmps48
  go_wp2_with fail
  refine (width2 w).mono ?_
  rintro e w1 ⟨rfl, rfl⟩
  go_wp2_with fail
  go_loopw [0, 5, 7] (fun ov _ iv wr => ∃ i, i ≤ 2 ∧ iv = .int .i64 (i : Nat) ∧ Putting base (xs ++ le i v) w1 wr ov) (fun _ _ iv _ => 2 - (intOf iv).toNat)
  case atStart => exact ⟨0, by omega, rfl, by rw [show le 0 v = [] from rfl, List.append_nil]; exact I0.out, Below.refl _ _, hz⟩
  case round =>
    clear I0
    obtain ⟨i, hi, rfl, P⟩ := hrel
    have HP : Hid (Putting base (xs ++ le i v) w1 wr u0) := P
    have z := P.z
    clear P
    by_cases hin : i < 2
    · have hin' : (i : Int) < 2 := by omega
      obtain ⟨y, q, s, hy, hs, q0, q1, q2, q3⟩ := shr_of v i
      have q4 : (s : Int) ≤ 16 := by omega
      clear hs
      go_wp2_with (at_builtin; refine list_app base (v := u0) (s := .slice (some ⟨wr.heap.size, 0, none⟩) 1 1) (xs := xs ++ le i v) (ys := [y]) rfl (.tmp 10) (.tmp 16) rfl rfl rfl (World.ownsRow.alloc HP.out.own _) ?c1 (by simp [le_len]; omega) (by simp; omega) ?_)
      case c1 => exact (bytes_one y wr 5 1).resolve_right (by simp)
      intro v3 w3 o3 g3 a3
      have HN : Hid (Putting base (xs ++ le (i + 1) v) w1 w3 v3) := by
        rw [← List.append_assoc] at o3
        have := HP.out.more _ _ o3 g3
        rwa [List.append_assoc, ← hy, le_snoc] at this
      clear o3 g3 a3
      go_wp2_with fail
      go_roundw
      case rel => exact ⟨i + 1, by omega, by go_num, HN.out⟩
      case measure => simp [intOf]; omega
    · obtain rfl : i = 2 := by omega
      go_wp2_with fail
      go_ret
      exact ⟨_, rfl, HP.out⟩

set_option maxRecDepth 100000 in
set_option maxHeartbeats 800000 in
theorem out4 (base v : Nat) (o : Value) (xs : List Nat) (w : World) (ho : Own base o xs w) (hx : xs.length ≤ 1000) (hz : base ≤ w.heap.size) :
    Calls Try.prog 47 #[o, .int .u32 v] w fun e w' => ∃ o', e = .returned o' ∧ Putting base (xs ++ le 4 v) w w' o' := by
  have I0 : Hid (Own base o xs w) := ho
  obtain ⟨ao, cap, rfl⟩ := own_size ho
  clear ho
  go_enter Try.func47, Try.ntmps47
  go_wp2_with fail
  refine (width4 w).mono ?_
  rintro e w1 ⟨rfl, rfl⟩
  go_wp2_with fail
  go_loopw [0, 5, 7] (fun ov _ iv wr => ∃ i, i ≤ 4 ∧ iv = .int .i64 (i : Nat) ∧ Putting base (xs ++ le i v) w1 wr ov) (fun _ _ iv _ => 4 - (intOf iv).toNat)
  case atStart => exact ⟨0, by omega, rfl, by rw [show le 0 v = [] from rfl, List.append_nil]; exact I0.out, Below.refl _ _, hz⟩
  case round =>
    clear I0
    obtain ⟨i, hi, rfl, P⟩ := hrel
    have HP : Hid (Putting base (xs ++ le i v) w1 wr u0) := P
    have z := P.z
    clear P
    by_cases hin : i < 4
    · have hin' : (i : Int) < 4 := by omega
      obtain ⟨y, q, s, hy, hs, q0, q1, q2, q3⟩ := shr_of v i
      have q4 : (s : Int) ≤ 32 := by omega
      clear hs
      go_wp2_with (at_builtin; refine list_app base (v := u0) (s := .slice (some ⟨wr.heap.size, 0, none⟩) 1 1) (xs := xs ++ le i v) (ys := [y]) rfl (.tmp 10) (.tmp 16) rfl rfl rfl (World.ownsRow.alloc HP.out.own _) ?c1 (by simp [le_len]; omega) (by simp; omega) ?_)
      case c1 => exact (bytes_one y wr 5 1).resolve_right (by simp)
      intro v3 w3 o3 g3 a3
      have HN : Hid (Putting base (xs ++ le (i + 1) v) w1 w3 v3) := by
        rw [← List.append_assoc] at o3
        have := HP.out.more _ _ o3 g3
        rwa [List.append_assoc, ← hy, le_snoc] at this
      clear o3 g3 a3
      go_wp2_with fail
      go_roundw
      case rel => exact ⟨i + 1, by omega, by go_num, HN.out⟩
      case measure => simp [intOf]; omega
    · obtain rfl : i = 4 := by omega
      go_wp2_with fail
      go_ret
      exact ⟨_, rfl, HP.out⟩

end Go.Proofs.Ytdhoimjkgicneab

/- Laws of walks: a region that draws its order and leaves what was there, operation by operation; an operator on two values, given what it gives. -/
namespace Go.Proofs.Ytdhoimjkgicneab
open Go Go.RowKit

/-- A region that draws its order, whose operations and callees leave what was there. -/
theorem wp_region_belowM {P : Program} {id : Nat} {Q : Exit → Act → World → Prop} {a : Act} {w : World} {l : List Oper} (hm : P.follows .mixedOrders = true) (hB : Region.lexB .any l.toArray = true)
    (h : wpQuiet P l.toArray (Below w.heap.size w) (fun a' => ∀ w', Below w.heap.size w w' → Q .normal a' w') l a) : (Code.region id l.toArray true).wp P Q a w :=
  wp_region_quiet (C := Below w.heap.size w) hm hB (Below.refl w.heap.size w).drew (by simpa using h)

section
variable {ops : Array Oper} {C : World → Prop} {Q : Act → Prop} {rest : List Oper} {o : Oper} {a : Act}
theorem quiet_any {v : Value} (hg : Region.wanted o (yielded ops a.tmps) = true) (h : ∀ w, C w → (execOp a.eval o).run Try.prog w = .ok (.value v) w) (hK : wpQuiet Try.prog ops C Q rest (a.put o.dst v)) : wpQuiet Try.prog ops C Q (o :: rest) a := by
  rw [wpQuiet, if_pos hg]
  refine ⟨v, fun w hw => ?_, hK⟩
  unfold Oper.quietAt
  rw [h w hw]
  first | exact ⟨rfl, rfl⟩ | exact ⟨rfl, hw⟩ | simp [Oper.quietUpon, hw]
theorem quiet_load {t : TypeId} {p : Operand} {x v : Value} (ho : o.op = .load t p) (hx : a.eval p = x) (hg : Region.wanted o (yielded ops a.tmps) = true) (h : ∀ w, C w → (Instr.loadAt t x).run Try.prog w = .ok v w)
    (hK : wpQuiet Try.prog ops C Q rest (a.put o.dst v)) : wpQuiet Try.prog ops C Q (o :: rest) a := by
  refine quiet_any hg (fun w hw => ?_) hK
  subst hx
  simp only [execOp, ho, Sem.run_bind, h w hw, Result.andThen, Sem.run_pure]
theorem quiet_bin {op : BinOp} {t t2 : TypeId} {x y : Operand} {u1 u2 v : Value} (ho : o.op = .binOp op t x y t2) (hx : a.eval x = u1) (hy : a.eval y = u2) (hg : Region.wanted o (yielded ops a.tmps) = true)
    (h1 : ∀ w, (eqGuard op t x y u1 u2).run Try.prog w = .ok () w) (h2 : ∀ w, (binOp op t u1 u2).run Try.prog w = .ok v w) (hK : wpQuiet Try.prog ops C Q rest (a.put o.dst v)) : wpQuiet Try.prog ops C Q (o :: rest) a := by
  refine quiet_any hg (fun w _ => ?_) hK
  subst hx hy
  simp only [execOp, ho, Sem.run_bind, h1 w, h2 w, Result.andThen, Sem.run_pure]
end

theorem list_bin {ops : Array Oper} {Q : Exit → Act → World → Prop} {rest : List Oper} {o : Oper} {a : Act} {w : World} {op : BinOp} {t t2 : TypeId} {x y : Operand} {u1 u2 u : Value}
    (ho : o.op = .binOp op t x y t2) (hx : a.eval x = u1) (hy : a.eval y = u2) (hg : Region.wanted o (yielded ops a.tmps) = true)
    (h1 : (eqGuard op t x y u1 u2).run Try.prog w = .ok () w) (h2 : (binOp op t u1 u2).run Try.prog w = .ok u w) (hK : wpList Try.prog ops Q rest (a.put o.dst u) w) : wpList Try.prog ops Q (o :: rest) a w := by
  rw [wpList, if_pos hg]
  subst hx hy
  refine .inl ?_
  have e : (execOp a.eval o).run Try.prog w = .ok (.value u) w := by
    simp only [execOp, ho, Sem.run_bind, h1, h2, Result.andThen, Sem.run_pure]
  unfold Oper.wp
  rw [e]
  exact hK

end Go.Proofs.Ytdhoimjkgicneab
