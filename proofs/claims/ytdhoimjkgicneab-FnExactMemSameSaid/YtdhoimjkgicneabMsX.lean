/- The specification's MemSame: it answers whether two memories are the same. -/
import Derived.Test.YtdhoimjkgicneabMsD
import Derived.Test.YtdhoimjkgicneabTxtX
import Derived.Test.YtdhoimjkgicneabMtD
namespace Go.Proofs.Ytdhoimjkgicneab
open Go Go.RowKit

theorem txt_iff {x y : Nat} {l l' : List UInt8} (h : Txt x l) (g : Txt y l') : l = l' ↔ Same x y :=
  ⟨fun e => txt_same h (e ▸ g), fun s => txt_fun (txt_of_same s h) g⟩

set_option maxHeartbeats 1000000 in
theorem spec_same3 {x y : Nat} {q : Bool} (hq : q = true ↔ Same x y) (w : World) :
    Calls Try.prog 57 #[.float .f64 x, .float .f64 y] w fun e w' => e = .returned (.bool q) ∧ Below w.heap.size w w' := by
  have HQ : Hid (q = true ↔ Same x y) := hq
  clear hq
  go_enter Try.func57, Try.ntmps57
  go_wp2_with fail
  refine (specX_rtext x w).mono ?_
  rintro e w1 ⟨l1, rfl, t1, -, b1⟩
  have H1 : Hid (Txt x l1 ∧ Below w.heap.size w w1) := ⟨t1, b1⟩
  clear t1 b1
  go_wp2_with fail
  refine (specX_rtext y w1).mono ?_
  rintro e w2 ⟨l2, rfl, t2, -, b2⟩
  have H2 : Hid (Txt y l2 ∧ Below w1.heap.size w1 w2) := ⟨t2, b2⟩
  clear t2 b2
  go_wp2_with fail
  go_ret
  refine ⟨ret_bool ?_, H1.out.2.trans (H2.out.2.mono H1.out.2.size)⟩
  rw [Bool.eq_iff_iff, HQ.out, ← txt_iff H1.out.1 H2.out.1]
  simp

theorem two_timer (a a' : Bool) (c c' : Nat) : ∃ q : Bool, (∀ w, (binOp .neq 47 (.agg #[.bool a, .int .u16 c]) (.agg #[.bool a', .int .u16 c'])).run Try.prog w = .ok (.bool (!q)) w) ∧ (q = true ↔ a = a' ∧ c = c') := by
  refine ⟨decide (a = a' ∧ c = c'), fun w => ?_, by simp⟩
  obtain ⟨b, h1, h2⟩ := eq_timer 9998 (fun j => if j = 0 then .bool a else .int .u16 c) (fun j => if j = 0 then .bool a' else .int .u16 c') w rfl rfl rfl rfl
  have e : b = decide (a = a' ∧ c = c') := by
    rw [Bool.eq_iff_iff, h2]
    constructor
    · intro h
      have g0 := h 0 (by omega)
      have g1 := h 1 (by omega)
      simp at g0 g1
      exact decide_eq_true ⟨g0, by omega⟩
    · intro h j _
      simp at h
      simp [h.1, h.2]
  rw [← e]
  have h1' : (Op.equalIn 10000 47 (.agg #[.bool a, .int .u16 c]) (.agg #[.bool a', .int .u16 c'])).run Try.prog w = .ok b w := h1
  rw [run_neq_struct, h1']
  rfl

theorem two_counter (a a' l l' : Bool) (c c' : Nat) : ∃ q : Bool, (∀ w, (binOp .neq 50 (.agg #[.bool a, .bool l, .int .u16 c]) (.agg #[.bool a', .bool l', .int .u16 c'])).run Try.prog w = .ok (.bool (!q)) w) ∧ (q = true ↔ a = a' ∧ l = l' ∧ c = c') := by
  refine ⟨decide (a = a' ∧ l = l' ∧ c = c'), fun w => ?_, by simp⟩
  obtain ⟨b, h1, h2⟩ := eq_counter 9998 (fun j => if j = 0 then .bool a else if j = 1 then .bool l else .int .u16 c) (fun j => if j = 0 then .bool a' else if j = 1 then .bool l' else .int .u16 c') w rfl rfl rfl rfl rfl rfl
  have e : b = decide (a = a' ∧ l = l' ∧ c = c') := by
    rw [Bool.eq_iff_iff, h2]
    constructor
    · intro h
      have g0 := h 0 (by omega)
      have g1 := h 1 (by omega)
      have g2 := h 2 (by omega)
      simp at g0 g1 g2
      exact decide_eq_true ⟨g0, g1, by omega⟩
    · intro h j _
      simp at h
      simp [h.1, h.2.1, h.2.2]
  rw [← e]
  have h1' : (Op.equalIn 10000 50 (.agg #[.bool a, .bool l, .int .u16 c]) (.agg #[.bool a', .bool l', .int .u16 c'])).run Try.prog w = .ok b w := h1
  rw [run_neq_struct, h1']
  rfl

/-- The walk of a region that draws its order, shut: what unfolds by itself stands still. -/
structure WQ (P : Program) (ops : Array Oper) (C : World → Prop) (Q : Act → Prop) (l : List Oper) (a : Act) : Prop where
  out : wpQuiet P ops C Q l a

theorem wq_region {P : Program} {id : Nat} {Q : Exit → Act → World → Prop} {a : Act} {w : World} {l : List Oper} (hm : P.follows .mixedOrders = true) (hB : Region.lexB .any l.toArray = true)
    (h : WQ P l.toArray (Below w.heap.size w) (fun a' => ∀ w', Below w.heap.size w w' → Q .normal a' w') l a) : (Code.region id l.toArray true).wp P Q a w := wp_region_belowM hm hB h.out
theorem wq_nil {P : Program} {ops : Array Oper} {C : World → Prop} {Q : Act → Prop} {a : Act} (h : Q a) : WQ P ops C Q [] a := ⟨wpQuiet_nil h⟩
theorem wq_step {P : Program} {ops : Array Oper} {C : World → Prop} {Q : Act → Prop} {rest : List Oper} {o : Oper} {a : Act}
    (h : ∀ K : Act → Prop, (∀ a', WQ P ops C Q rest a' → K a') → if Region.wanted o (yielded ops a.tmps) then o.quiet P a C K else K (a.put o.dst undef)) : WQ P ops C Q (o :: rest) a := ⟨wpQuiet_step fun K hK => h K fun a' g => hK a' g.out⟩
theorem wq_bin {ops : Array Oper} {C : World → Prop} {Q : Act → Prop} {rest : List Oper} {o : Oper} {a : Act} {op : BinOp} {t t2 : TypeId} {x y : Operand} {u1 u2 v : Value} (ho : o.op = .binOp op t x y t2) (hx : a.eval x = u1) (hy : a.eval y = u2)
    (hg : Region.wanted o (yielded ops a.tmps) = true) (h1 : ∀ w, (eqGuard op t x y u1 u2).run Try.prog w = .ok () w) (h2 : ∀ w, (binOp op t u1 u2).run Try.prog w = .ok v w) (hK : WQ Try.prog ops C Q rest (a.put o.dst v)) : WQ Try.prog ops C Q (o :: rest) a :=
  ⟨quiet_bin ho hx hy hg h1 h2 hK.out⟩

/-- The devices that stand sixteen times are the same, up to a place. -/
def Upto (a b : MemV) (k : Nat) : Prop := ∀ i, i < k → Same (a.r i) (b.r i) ∧ (a.tD i = b.tD i ∧ a.tC i = b.tC i) ∧ a.cD i = b.cD i ∧ a.cL i = b.cL i ∧ a.cC i = b.cC i
theorem Upto.next {a b : MemV} {k : Nat} (h : Upto a b k) (g : Same (a.r k) (b.r k) ∧ (a.tD k = b.tD k ∧ a.tC k = b.tC k) ∧ a.cD k = b.cD k ∧ a.cL k = b.cL k ∧ a.cC k = b.cC k) : Upto a b (k + 1) := by
  intro i hi
  by_cases e : i = k
  · subst e; exact g
  · exact h i (by omega)
theorem not_same {a b : MemV} {k : Nat} (hk : k < 16) (h : ¬ (Same (a.r k) (b.r k) ∧ (a.tD k = b.tD k ∧ a.tC k = b.tC k) ∧ a.cD k = b.cD k ∧ a.cL k = b.cL k ∧ a.cC k = b.cC k)) : ¬ SameM a b := fun s =>
  h ⟨s.r k hk, ⟨s.tD k hk, s.tC k hk⟩, s.cD k hk, s.cL k hk, s.cC k hk⟩

theorem cells_at {v : MemV} {q : Nat} {w : World} (k : Nat) (hk : k < 16) (h : MemAt q v w) :
    w.cell? ⟨q, 117 + k, none⟩ = some (.float .f64 (v.r k)) ∧ w.cell? ⟨q, 5 + k * 2, none⟩ = some (.bool (v.tD k)) ∧ w.cell? ⟨q, 5 + k * 2 + 1, none⟩ = some (.int .u16 (v.tC k)) ∧
    w.cell? ⟨q, 37 + k * 3, none⟩ = some (.bool (v.cD k)) ∧ w.cell? ⟨q, 37 + k * 3 + 1, none⟩ = some (.bool (v.cL k)) ∧ w.cell? ⟨q, 37 + k * 3 + 2, none⟩ = some (.int .u16 (v.cC k)) :=
  ⟨by rw [h.c _ (by omega), v.cell_r k hk], by rw [h.c _ (by omega), v.cell_tD k hk], by rw [h.c _ (by omega), v.cell_tC k hk], by rw [h.c _ (by omega), v.cell_cD k hk], by rw [h.c _ (by omega), v.cell_cL k hk], by rw [h.c _ (by omega), v.cell_cC k hk]⟩

theorem int_at {v : MemV} {q : Nat} {w : World} (k : Nat) (hk : k < 32) (h : MemAt q v w) : w.cell? ⟨q, 85 + k, none⟩ = some (.int .i16 (v.d k)) := by rw [h.c _ (by omega), v.cell_d k hk]
theorem ends_at {v : MemV} {q : Nat} {w : World} (h : MemAt q v w) :
    w.cell? ⟨q, 0, none⟩ = some (.int .u32 v.x) ∧ w.cell? ⟨q, 1, none⟩ = some (.int .u32 v.y) ∧ w.cell? ⟨q, 2, none⟩ = some (.int .u64 v.m) ∧ w.cell? ⟨q, 3, none⟩ = some (.int .u16 v.s) ∧ w.cell? ⟨q, 4, none⟩ = some (.int .u32 v.e) ∧
    w.cell? ⟨q, 133, none⟩ = some (.int .u32 v.time) ∧ w.cell? ⟨q, 134, none⟩ = some (.bool v.ran) ∧ w.cell? ⟨q, 135, none⟩ = some (.bool v.fault) :=
  ⟨h.c 0 (by omega), h.c 1 (by omega), h.c 2 (by omega), h.c 3 (by omega), h.c 4 (by omega), h.c 133 (by omega), h.c 134 (by omega), h.c 135 (by omega)⟩

set_option maxRecDepth 100000 in
set_option maxHeartbeats 2000000 in
theorem spec_same (a b : MemV) (w : World) : Calls Try.prog 29 #[.agg a.row, .agg b.row] w (SameOf a b w) := by
  obtain ⟨A, B, BW⟩ := two_mems a b w 57 57
  go_enter Try.func29, Try.ntmps29
  go_wp2_with fail
  generalize ((w.alloc (.cells a.row 57)).alloc (.cells b.row 57)) = w0 at A B BW ⊢
  go_loopw [5] (fun i wr => ∃ k : Nat, k ≤ 16 ∧ i = .int .i64 k ∧ MemAt w.heap.size a wr ∧ MemAt (w.heap.size + 1) b wr ∧ Below w.heap.size w wr ∧ Upto a b k) (fun i _ => 16 - (intOf i).toNat)
  case atStart => exact ⟨0, by omega, rfl, A, B, BW, fun i hi => by omega⟩
  case round =>
    clear A B BW
    obtain ⟨k, hk, rfl, A, B, BW, U⟩ := hrel
    have HU : Hid (Upto a b k) := U
    clear U
    by_cases hlt : k < 16
    · obtain ⟨q1, h1⟩ : ∃ q : Bool, q = true ↔ Same (a.r k) (b.r k) := by
        by_cases h : Same (a.r k) (b.r k)
        · exact ⟨true, by simp [h]⟩
        · exact ⟨false, by simp [h]⟩
      obtain ⟨q2, Q2, h2⟩ := two_timer (a.tD k) (b.tD k) (a.tC k) (b.tC k)
      obtain ⟨q3, Q3, h3⟩ := two_counter (a.cD k) (b.cD k) (a.cL k) (b.cL k) (a.cC k) (b.cC k)
      have S1 := fun w' => spec_same3 h1 w'
      have LA := fun w' (hw' : Below wr.heap.size wr w') => cells_at k hlt (A.below hw' A.z)
      have LB := fun w' (hw' : Below wr.heap.size wr w') => cells_at k hlt (B.below hw' B.z)
      have H1 : Hid (q1 = true ↔ Same (a.r k) (b.r k)) := h1
      have H2 : Hid (q2 = true ↔ _) := h2
      have H3 : Hid (q3 = true ↔ _) := h3
      clear h1 h2 h3
      cases q1 with
      | false =>
        go_wp2_with fail
        refine wq_region (by kernel_rfl) (by kernel_rfl) ?_
        refine wq_step (fun K hK => ?_)
        go_simp
        first | (refine ⟨_, fun _ _ => rfl, hK _ ?_⟩; clear hK K) | (refine hK _ ?_; clear hK K)
        refine wq_step (fun K hK => ?_)
        go_simp
        first | (refine ⟨_, fun _ _ => rfl, hK _ ?_⟩; clear hK K) | (refine hK _ ?_; clear hK K)
        refine wq_step (fun K hK => ?_)
        go_simp
        first | (refine ⟨_, fun _ _ => rfl, hK _ ?_⟩; clear hK K) | (refine hK _ ?_; clear hK K)
        refine wq_step (fun K hK => ?_)
        go_simp
        refine ⟨.float .f64 (a.r k), fun w' hw' => ?_, hK _ ?_⟩
        · obtain ⟨cr, ct0, ct1, cc0, cc1, cc2⟩ := LA w' hw'
          simp [cr]
        clear hK K
        refine wq_step (fun K hK => ?_)
        go_simp
        first | (refine ⟨_, fun _ _ => rfl, hK _ ?_⟩; clear hK K) | (refine hK _ ?_; clear hK K)
        refine wq_step (fun K hK => ?_)
        go_simp
        first | (refine ⟨_, fun _ _ => rfl, hK _ ?_⟩; clear hK K) | (refine hK _ ?_; clear hK K)
        refine wq_step (fun K hK => ?_)
        go_simp
        first | (refine ⟨_, fun _ _ => rfl, hK _ ?_⟩; clear hK K) | (refine hK _ ?_; clear hK K)
        refine wq_step (fun K hK => ?_)
        go_simp
        refine ⟨.float .f64 (b.r k), fun w' hw' => ?_, hK _ ?_⟩
        · obtain ⟨cr, ct0, ct1, cc0, cc1, cc2⟩ := LB w' hw'
          simp [cr]
        clear hK K
        refine wq_step (fun K hK => ?_)
        go_simp
        refine ⟨.bool false, fun w' hw' => (S1 w').mono fun e w'' ⟨he, hb⟩ => ⟨he, hw'.trans (hb.mono hw'.size)⟩, hK _ ?_⟩
        clear hK K
        refine wq_step (fun K hK => ?_)
        go_simp
        first | (refine ⟨_, fun _ _ => rfl, hK _ ?_⟩; clear hK K) | (refine hK _ ?_; clear hK K)
        refine wq_step (fun K hK => ?_)
        go_simp
        first | (refine ⟨_, fun _ _ => rfl, hK _ ?_⟩; clear hK K) | (refine hK _ ?_; clear hK K)
        refine wq_step (fun K hK => ?_)
        go_simp
        first | (refine ⟨_, fun _ _ => rfl, hK _ ?_⟩; clear hK K) | (refine hK _ ?_; clear hK K)
        refine wq_step (fun K hK => ?_)
        go_simp
        first | (refine ⟨_, fun _ _ => rfl, hK _ ?_⟩; clear hK K) | (refine hK _ ?_; clear hK K)
        refine wq_step (fun K hK => ?_)
        go_simp
        first | (refine ⟨_, fun _ _ => rfl, hK _ ?_⟩; clear hK K) | (refine hK _ ?_; clear hK K)
        refine wq_step (fun K hK => ?_)
        go_simp
        first | (refine ⟨_, fun _ _ => rfl, hK _ ?_⟩; clear hK K) | (refine hK _ ?_; clear hK K)
        refine wq_step (fun K hK => ?_)
        go_simp
        first | (refine ⟨_, fun _ _ => rfl, hK _ ?_⟩; clear hK K) | (refine hK _ ?_; clear hK K)
        refine wq_step (fun K hK => ?_)
        go_simp
        first | (refine ⟨_, fun _ _ => rfl, hK _ ?_⟩; clear hK K) | (refine hK _ ?_; clear hK K)
        refine wq_step (fun K hK => ?_)
        go_simp
        first | (refine ⟨_, fun _ _ => rfl, hK _ ?_⟩; clear hK K) | (refine hK _ ?_; clear hK K)
        refine wq_step (fun K hK => ?_)
        go_simp
        first | (refine ⟨_, fun _ _ => rfl, hK _ ?_⟩; clear hK K) | (refine hK _ ?_; clear hK K)
        refine wq_step (fun K hK => ?_)
        go_simp
        first | (refine ⟨_, fun _ _ => rfl, hK _ ?_⟩; clear hK K) | (refine hK _ ?_; clear hK K)
        refine wq_step (fun K hK => ?_)
        go_simp
        first | (refine ⟨_, fun _ _ => rfl, hK _ ?_⟩; clear hK K) | (refine hK _ ?_; clear hK K)
        refine wq_step (fun K hK => ?_)
        go_simp
        first | (refine ⟨_, fun _ _ => rfl, hK _ ?_⟩; clear hK K) | (refine hK _ ?_; clear hK K)
        refine wq_step (fun K hK => ?_)
        go_simp
        first | (refine ⟨_, fun _ _ => rfl, hK _ ?_⟩; clear hK K) | (refine hK _ ?_; clear hK K)
        refine wq_step (fun K hK => ?_)
        go_simp
        first | (refine ⟨_, fun _ _ => rfl, hK _ ?_⟩; clear hK K) | (refine hK _ ?_; clear hK K)
        refine wq_step (fun K hK => ?_)
        go_simp
        first | (refine ⟨_, fun _ _ => rfl, hK _ ?_⟩; clear hK K) | (refine hK _ ?_; clear hK K)
        refine wq_step (fun K hK => ?_)
        go_simp
        first | (refine ⟨_, fun _ _ => rfl, hK _ ?_⟩; clear hK K) | (refine hK _ ?_; clear hK K)
        refine wq_step (fun K hK => ?_)
        go_simp
        first | (refine ⟨_, fun _ _ => rfl, hK _ ?_⟩; clear hK K) | (refine hK _ ?_; clear hK K)
        refine wq_step (fun K hK => ?_)
        go_simp
        first | (refine ⟨_, fun _ _ => rfl, hK _ ?_⟩; clear hK K) | (refine hK _ ?_; clear hK K)
        refine wq_step (fun K hK => ?_)
        go_simp
        first | (refine ⟨_, fun _ _ => rfl, hK _ ?_⟩; clear hK K) | (refine hK _ ?_; clear hK K)
        refine wq_step (fun K hK => ?_)
        go_simp
        first | (refine ⟨_, fun _ _ => rfl, hK _ ?_⟩; clear hK K) | (refine hK _ ?_; clear hK K)
        refine wq_step (fun K hK => ?_)
        go_simp
        first | (refine ⟨_, fun _ _ => rfl, hK _ ?_⟩; clear hK K) | (refine hK _ ?_; clear hK K)
        refine wq_step (fun K hK => ?_)
        go_simp
        first | (refine ⟨_, fun _ _ => rfl, hK _ ?_⟩; clear hK K) | (refine hK _ ?_; clear hK K)
        refine wq_nil ?_
        intro w1 hw1
        have BW1 := BW.trans (hw1.mono BW.size)
        clear LA LB S1 A B BW Q2 Q3 hw1
        go_wp2_with fail
        go_ret
        exact ⟨false, rfl, ⟨fun h => by (cases h), fun h => absurd h (not_same hlt fun h => by have := H1.out.2 h.1; cases this)⟩, BW1⟩
      | true =>
        cases q2 with
        | false =>
          go_wp2_with fail
          refine wq_region (by kernel_rfl) (by kernel_rfl) ?_
          refine wq_step (fun K hK => ?_)
          go_simp
          first | (refine ⟨_, fun _ _ => rfl, hK _ ?_⟩; clear hK K) | (refine hK _ ?_; clear hK K)
          refine wq_step (fun K hK => ?_)
          go_simp
          first | (refine ⟨_, fun _ _ => rfl, hK _ ?_⟩; clear hK K) | (refine hK _ ?_; clear hK K)
          refine wq_step (fun K hK => ?_)
          go_simp
          first | (refine ⟨_, fun _ _ => rfl, hK _ ?_⟩; clear hK K) | (refine hK _ ?_; clear hK K)
          refine wq_step (fun K hK => ?_)
          go_simp
          refine ⟨.float .f64 (a.r k), fun w' hw' => ?_, hK _ ?_⟩
          · obtain ⟨cr, ct0, ct1, cc0, cc1, cc2⟩ := LA w' hw'
            simp [cr]
          clear hK K
          refine wq_step (fun K hK => ?_)
          go_simp
          first | (refine ⟨_, fun _ _ => rfl, hK _ ?_⟩; clear hK K) | (refine hK _ ?_; clear hK K)
          refine wq_step (fun K hK => ?_)
          go_simp
          first | (refine ⟨_, fun _ _ => rfl, hK _ ?_⟩; clear hK K) | (refine hK _ ?_; clear hK K)
          refine wq_step (fun K hK => ?_)
          go_simp
          first | (refine ⟨_, fun _ _ => rfl, hK _ ?_⟩; clear hK K) | (refine hK _ ?_; clear hK K)
          refine wq_step (fun K hK => ?_)
          go_simp
          refine ⟨.float .f64 (b.r k), fun w' hw' => ?_, hK _ ?_⟩
          · obtain ⟨cr, ct0, ct1, cc0, cc1, cc2⟩ := LB w' hw'
            simp [cr]
          clear hK K
          refine wq_step (fun K hK => ?_)
          go_simp
          refine ⟨.bool true, fun w' hw' => (S1 w').mono fun e w'' ⟨he, hb⟩ => ⟨he, hw'.trans (hb.mono hw'.size)⟩, hK _ ?_⟩
          clear hK K
          refine wq_step (fun K hK => ?_)
          go_simp
          first | (refine ⟨_, fun _ _ => rfl, hK _ ?_⟩; clear hK K) | (refine hK _ ?_; clear hK K)
          refine wq_step (fun K hK => ?_)
          go_simp
          first | (refine ⟨_, fun _ _ => rfl, hK _ ?_⟩; clear hK K) | (refine hK _ ?_; clear hK K)
          refine wq_step (fun K hK => ?_)
          go_simp
          first | (refine ⟨_, fun _ _ => rfl, hK _ ?_⟩; clear hK K) | (refine hK _ ?_; clear hK K)
          refine wq_step (fun K hK => ?_)
          go_simp
          first | (refine ⟨_, fun _ _ => rfl, hK _ ?_⟩; clear hK K) | (refine hK _ ?_; clear hK K)
          refine wq_step (fun K hK => ?_)
          go_simp
          first | (refine ⟨_, fun _ _ => rfl, hK _ ?_⟩; clear hK K) | (refine hK _ ?_; clear hK K)
          refine wq_step (fun K hK => ?_)
          go_simp
          refine ⟨.agg #[.bool (a.tD k), .int .u16 (a.tC k)], fun w' hw' => ?_, hK _ ?_⟩
          · obtain ⟨cr, ct0, ct1, cc0, cc1, cc2⟩ := LA w' hw'
            simp [ct0, ct1]
          clear hK K
          refine wq_step (fun K hK => ?_)
          go_simp
          first | (refine ⟨_, fun _ _ => rfl, hK _ ?_⟩; clear hK K) | (refine hK _ ?_; clear hK K)
          refine wq_step (fun K hK => ?_)
          go_simp
          first | (refine ⟨_, fun _ _ => rfl, hK _ ?_⟩; clear hK K) | (refine hK _ ?_; clear hK K)
          refine wq_step (fun K hK => ?_)
          go_simp
          first | (refine ⟨_, fun _ _ => rfl, hK _ ?_⟩; clear hK K) | (refine hK _ ?_; clear hK K)
          refine wq_step (fun K hK => ?_)
          go_simp
          refine ⟨.agg #[.bool (b.tD k), .int .u16 (b.tC k)], fun w' hw' => ?_, hK _ ?_⟩
          · obtain ⟨cr, ct0, ct1, cc0, cc1, cc2⟩ := LB w' hw'
            simp [ct0, ct1]
          clear hK K
          refine wq_bin (t := 47) rfl rfl rfl rfl (fun w => run_eqGuard_agg w _ _ _ _ _ _ (by kernel_rfl)) Q2 ?_
          go_simp
          refine wq_step (fun K hK => ?_)
          go_simp
          first | (refine ⟨_, fun _ _ => rfl, hK _ ?_⟩; clear hK K) | (refine hK _ ?_; clear hK K)
          refine wq_step (fun K hK => ?_)
          go_simp
          first | (refine ⟨_, fun _ _ => rfl, hK _ ?_⟩; clear hK K) | (refine hK _ ?_; clear hK K)
          refine wq_step (fun K hK => ?_)
          go_simp
          first | (refine ⟨_, fun _ _ => rfl, hK _ ?_⟩; clear hK K) | (refine hK _ ?_; clear hK K)
          refine wq_step (fun K hK => ?_)
          go_simp
          first | (refine ⟨_, fun _ _ => rfl, hK _ ?_⟩; clear hK K) | (refine hK _ ?_; clear hK K)
          refine wq_step (fun K hK => ?_)
          go_simp
          first | (refine ⟨_, fun _ _ => rfl, hK _ ?_⟩; clear hK K) | (refine hK _ ?_; clear hK K)
          refine wq_step (fun K hK => ?_)
          go_simp
          first | (refine ⟨_, fun _ _ => rfl, hK _ ?_⟩; clear hK K) | (refine hK _ ?_; clear hK K)
          refine wq_step (fun K hK => ?_)
          go_simp
          first | (refine ⟨_, fun _ _ => rfl, hK _ ?_⟩; clear hK K) | (refine hK _ ?_; clear hK K)
          refine wq_step (fun K hK => ?_)
          go_simp
          first | (refine ⟨_, fun _ _ => rfl, hK _ ?_⟩; clear hK K) | (refine hK _ ?_; clear hK K)
          refine wq_step (fun K hK => ?_)
          go_simp
          first | (refine ⟨_, fun _ _ => rfl, hK _ ?_⟩; clear hK K) | (refine hK _ ?_; clear hK K)
          refine wq_step (fun K hK => ?_)
          go_simp
          first | (refine ⟨_, fun _ _ => rfl, hK _ ?_⟩; clear hK K) | (refine hK _ ?_; clear hK K)
          refine wq_step (fun K hK => ?_)
          go_simp
          first | (refine ⟨_, fun _ _ => rfl, hK _ ?_⟩; clear hK K) | (refine hK _ ?_; clear hK K)
          refine wq_step (fun K hK => ?_)
          go_simp
          first | (refine ⟨_, fun _ _ => rfl, hK _ ?_⟩; clear hK K) | (refine hK _ ?_; clear hK K)
          refine wq_nil ?_
          intro w1 hw1
          have BW1 := BW.trans (hw1.mono BW.size)
          clear LA LB S1 A B BW Q2 Q3 hw1
          go_wp2_with fail
          go_ret
          exact ⟨false, rfl, ⟨fun h => by (cases h), fun h => absurd h (not_same hlt fun h => by have := H2.out.2 h.2.1; cases this)⟩, BW1⟩
        | true =>
          cases q3 with
          | false =>
            go_wp2_with fail
            refine wq_region (by kernel_rfl) (by kernel_rfl) ?_
            refine wq_step (fun K hK => ?_)
            go_simp
            first | (refine ⟨_, fun _ _ => rfl, hK _ ?_⟩; clear hK K) | (refine hK _ ?_; clear hK K)
            refine wq_step (fun K hK => ?_)
            go_simp
            first | (refine ⟨_, fun _ _ => rfl, hK _ ?_⟩; clear hK K) | (refine hK _ ?_; clear hK K)
            refine wq_step (fun K hK => ?_)
            go_simp
            first | (refine ⟨_, fun _ _ => rfl, hK _ ?_⟩; clear hK K) | (refine hK _ ?_; clear hK K)
            refine wq_step (fun K hK => ?_)
            go_simp
            refine ⟨.float .f64 (a.r k), fun w' hw' => ?_, hK _ ?_⟩
            · obtain ⟨cr, ct0, ct1, cc0, cc1, cc2⟩ := LA w' hw'
              simp [cr]
            clear hK K
            refine wq_step (fun K hK => ?_)
            go_simp
            first | (refine ⟨_, fun _ _ => rfl, hK _ ?_⟩; clear hK K) | (refine hK _ ?_; clear hK K)
            refine wq_step (fun K hK => ?_)
            go_simp
            first | (refine ⟨_, fun _ _ => rfl, hK _ ?_⟩; clear hK K) | (refine hK _ ?_; clear hK K)
            refine wq_step (fun K hK => ?_)
            go_simp
            first | (refine ⟨_, fun _ _ => rfl, hK _ ?_⟩; clear hK K) | (refine hK _ ?_; clear hK K)
            refine wq_step (fun K hK => ?_)
            go_simp
            refine ⟨.float .f64 (b.r k), fun w' hw' => ?_, hK _ ?_⟩
            · obtain ⟨cr, ct0, ct1, cc0, cc1, cc2⟩ := LB w' hw'
              simp [cr]
            clear hK K
            refine wq_step (fun K hK => ?_)
            go_simp
            refine ⟨.bool true, fun w' hw' => (S1 w').mono fun e w'' ⟨he, hb⟩ => ⟨he, hw'.trans (hb.mono hw'.size)⟩, hK _ ?_⟩
            clear hK K
            refine wq_step (fun K hK => ?_)
            go_simp
            first | (refine ⟨_, fun _ _ => rfl, hK _ ?_⟩; clear hK K) | (refine hK _ ?_; clear hK K)
            refine wq_step (fun K hK => ?_)
            go_simp
            first | (refine ⟨_, fun _ _ => rfl, hK _ ?_⟩; clear hK K) | (refine hK _ ?_; clear hK K)
            refine wq_step (fun K hK => ?_)
            go_simp
            first | (refine ⟨_, fun _ _ => rfl, hK _ ?_⟩; clear hK K) | (refine hK _ ?_; clear hK K)
            refine wq_step (fun K hK => ?_)
            go_simp
            first | (refine ⟨_, fun _ _ => rfl, hK _ ?_⟩; clear hK K) | (refine hK _ ?_; clear hK K)
            refine wq_step (fun K hK => ?_)
            go_simp
            first | (refine ⟨_, fun _ _ => rfl, hK _ ?_⟩; clear hK K) | (refine hK _ ?_; clear hK K)
            refine wq_step (fun K hK => ?_)
            go_simp
            refine ⟨.agg #[.bool (a.tD k), .int .u16 (a.tC k)], fun w' hw' => ?_, hK _ ?_⟩
            · obtain ⟨cr, ct0, ct1, cc0, cc1, cc2⟩ := LA w' hw'
              simp [ct0, ct1]
            clear hK K
            refine wq_step (fun K hK => ?_)
            go_simp
            first | (refine ⟨_, fun _ _ => rfl, hK _ ?_⟩; clear hK K) | (refine hK _ ?_; clear hK K)
            refine wq_step (fun K hK => ?_)
            go_simp
            first | (refine ⟨_, fun _ _ => rfl, hK _ ?_⟩; clear hK K) | (refine hK _ ?_; clear hK K)
            refine wq_step (fun K hK => ?_)
            go_simp
            first | (refine ⟨_, fun _ _ => rfl, hK _ ?_⟩; clear hK K) | (refine hK _ ?_; clear hK K)
            refine wq_step (fun K hK => ?_)
            go_simp
            refine ⟨.agg #[.bool (b.tD k), .int .u16 (b.tC k)], fun w' hw' => ?_, hK _ ?_⟩
            · obtain ⟨cr, ct0, ct1, cc0, cc1, cc2⟩ := LB w' hw'
              simp [ct0, ct1]
            clear hK K
            refine wq_bin (t := 47) rfl rfl rfl rfl (fun w => run_eqGuard_agg w _ _ _ _ _ _ (by kernel_rfl)) Q2 ?_
            go_simp
            refine wq_step (fun K hK => ?_)
            go_simp
            first | (refine ⟨_, fun _ _ => rfl, hK _ ?_⟩; clear hK K) | (refine hK _ ?_; clear hK K)
            refine wq_step (fun K hK => ?_)
            go_simp
            first | (refine ⟨_, fun _ _ => rfl, hK _ ?_⟩; clear hK K) | (refine hK _ ?_; clear hK K)
            refine wq_step (fun K hK => ?_)
            go_simp
            first | (refine ⟨_, fun _ _ => rfl, hK _ ?_⟩; clear hK K) | (refine hK _ ?_; clear hK K)
            refine wq_step (fun K hK => ?_)
            go_simp
            first | (refine ⟨_, fun _ _ => rfl, hK _ ?_⟩; clear hK K) | (refine hK _ ?_; clear hK K)
            refine wq_step (fun K hK => ?_)
            go_simp
            first | (refine ⟨_, fun _ _ => rfl, hK _ ?_⟩; clear hK K) | (refine hK _ ?_; clear hK K)
            refine wq_step (fun K hK => ?_)
            go_simp
            refine ⟨.agg #[.bool (a.cD k), .bool (a.cL k), .int .u16 (a.cC k)], fun w' hw' => ?_, hK _ ?_⟩
            · obtain ⟨cr, ct0, ct1, cc0, cc1, cc2⟩ := LA w' hw'
              simp [cc0, cc1, cc2]
            clear hK K
            refine wq_step (fun K hK => ?_)
            go_simp
            first | (refine ⟨_, fun _ _ => rfl, hK _ ?_⟩; clear hK K) | (refine hK _ ?_; clear hK K)
            refine wq_step (fun K hK => ?_)
            go_simp
            first | (refine ⟨_, fun _ _ => rfl, hK _ ?_⟩; clear hK K) | (refine hK _ ?_; clear hK K)
            refine wq_step (fun K hK => ?_)
            go_simp
            first | (refine ⟨_, fun _ _ => rfl, hK _ ?_⟩; clear hK K) | (refine hK _ ?_; clear hK K)
            refine wq_step (fun K hK => ?_)
            go_simp
            refine ⟨.agg #[.bool (b.cD k), .bool (b.cL k), .int .u16 (b.cC k)], fun w' hw' => ?_, hK _ ?_⟩
            · obtain ⟨cr, ct0, ct1, cc0, cc1, cc2⟩ := LB w' hw'
              simp [cc0, cc1, cc2]
            clear hK K
            refine wq_bin (t := 50) rfl rfl rfl rfl (fun w => run_eqGuard_agg w _ _ _ _ _ _ (by kernel_rfl)) Q3 ?_
            go_simp
            refine wq_step (fun K hK => ?_)
            go_simp
            first | (refine ⟨_, fun _ _ => rfl, hK _ ?_⟩; clear hK K) | (refine hK _ ?_; clear hK K)
            refine wq_nil ?_
            intro w1 hw1
            have BW1 := BW.trans (hw1.mono BW.size)
            clear LA LB S1 A B BW Q2 Q3 hw1
            go_wp2_with fail
            go_ret
            exact ⟨false, rfl, ⟨fun h => by (cases h), fun h => absurd h (not_same hlt fun h => by have := H3.out.2 h.2.2; cases this)⟩, BW1⟩
          | true =>
            go_wp2_with fail
            refine wq_region (by kernel_rfl) (by kernel_rfl) ?_
            refine wq_step (fun K hK => ?_)
            go_simp
            first | (refine ⟨_, fun _ _ => rfl, hK _ ?_⟩; clear hK K) | (refine hK _ ?_; clear hK K)
            refine wq_step (fun K hK => ?_)
            go_simp
            first | (refine ⟨_, fun _ _ => rfl, hK _ ?_⟩; clear hK K) | (refine hK _ ?_; clear hK K)
            refine wq_step (fun K hK => ?_)
            go_simp
            first | (refine ⟨_, fun _ _ => rfl, hK _ ?_⟩; clear hK K) | (refine hK _ ?_; clear hK K)
            refine wq_step (fun K hK => ?_)
            go_simp
            refine ⟨.float .f64 (a.r k), fun w' hw' => ?_, hK _ ?_⟩
            · obtain ⟨cr, ct0, ct1, cc0, cc1, cc2⟩ := LA w' hw'
              simp [cr]
            clear hK K
            refine wq_step (fun K hK => ?_)
            go_simp
            first | (refine ⟨_, fun _ _ => rfl, hK _ ?_⟩; clear hK K) | (refine hK _ ?_; clear hK K)
            refine wq_step (fun K hK => ?_)
            go_simp
            first | (refine ⟨_, fun _ _ => rfl, hK _ ?_⟩; clear hK K) | (refine hK _ ?_; clear hK K)
            refine wq_step (fun K hK => ?_)
            go_simp
            first | (refine ⟨_, fun _ _ => rfl, hK _ ?_⟩; clear hK K) | (refine hK _ ?_; clear hK K)
            refine wq_step (fun K hK => ?_)
            go_simp
            refine ⟨.float .f64 (b.r k), fun w' hw' => ?_, hK _ ?_⟩
            · obtain ⟨cr, ct0, ct1, cc0, cc1, cc2⟩ := LB w' hw'
              simp [cr]
            clear hK K
            refine wq_step (fun K hK => ?_)
            go_simp
            refine ⟨.bool true, fun w' hw' => (S1 w').mono fun e w'' ⟨he, hb⟩ => ⟨he, hw'.trans (hb.mono hw'.size)⟩, hK _ ?_⟩
            clear hK K
            refine wq_step (fun K hK => ?_)
            go_simp
            first | (refine ⟨_, fun _ _ => rfl, hK _ ?_⟩; clear hK K) | (refine hK _ ?_; clear hK K)
            refine wq_step (fun K hK => ?_)
            go_simp
            first | (refine ⟨_, fun _ _ => rfl, hK _ ?_⟩; clear hK K) | (refine hK _ ?_; clear hK K)
            refine wq_step (fun K hK => ?_)
            go_simp
            first | (refine ⟨_, fun _ _ => rfl, hK _ ?_⟩; clear hK K) | (refine hK _ ?_; clear hK K)
            refine wq_step (fun K hK => ?_)
            go_simp
            first | (refine ⟨_, fun _ _ => rfl, hK _ ?_⟩; clear hK K) | (refine hK _ ?_; clear hK K)
            refine wq_step (fun K hK => ?_)
            go_simp
            first | (refine ⟨_, fun _ _ => rfl, hK _ ?_⟩; clear hK K) | (refine hK _ ?_; clear hK K)
            refine wq_step (fun K hK => ?_)
            go_simp
            refine ⟨.agg #[.bool (a.tD k), .int .u16 (a.tC k)], fun w' hw' => ?_, hK _ ?_⟩
            · obtain ⟨cr, ct0, ct1, cc0, cc1, cc2⟩ := LA w' hw'
              simp [ct0, ct1]
            clear hK K
            refine wq_step (fun K hK => ?_)
            go_simp
            first | (refine ⟨_, fun _ _ => rfl, hK _ ?_⟩; clear hK K) | (refine hK _ ?_; clear hK K)
            refine wq_step (fun K hK => ?_)
            go_simp
            first | (refine ⟨_, fun _ _ => rfl, hK _ ?_⟩; clear hK K) | (refine hK _ ?_; clear hK K)
            refine wq_step (fun K hK => ?_)
            go_simp
            first | (refine ⟨_, fun _ _ => rfl, hK _ ?_⟩; clear hK K) | (refine hK _ ?_; clear hK K)
            refine wq_step (fun K hK => ?_)
            go_simp
            refine ⟨.agg #[.bool (b.tD k), .int .u16 (b.tC k)], fun w' hw' => ?_, hK _ ?_⟩
            · obtain ⟨cr, ct0, ct1, cc0, cc1, cc2⟩ := LB w' hw'
              simp [ct0, ct1]
            clear hK K
            refine wq_bin (t := 47) rfl rfl rfl rfl (fun w => run_eqGuard_agg w _ _ _ _ _ _ (by kernel_rfl)) Q2 ?_
            go_simp
            refine wq_step (fun K hK => ?_)
            go_simp
            first | (refine ⟨_, fun _ _ => rfl, hK _ ?_⟩; clear hK K) | (refine hK _ ?_; clear hK K)
            refine wq_step (fun K hK => ?_)
            go_simp
            first | (refine ⟨_, fun _ _ => rfl, hK _ ?_⟩; clear hK K) | (refine hK _ ?_; clear hK K)
            refine wq_step (fun K hK => ?_)
            go_simp
            first | (refine ⟨_, fun _ _ => rfl, hK _ ?_⟩; clear hK K) | (refine hK _ ?_; clear hK K)
            refine wq_step (fun K hK => ?_)
            go_simp
            first | (refine ⟨_, fun _ _ => rfl, hK _ ?_⟩; clear hK K) | (refine hK _ ?_; clear hK K)
            refine wq_step (fun K hK => ?_)
            go_simp
            first | (refine ⟨_, fun _ _ => rfl, hK _ ?_⟩; clear hK K) | (refine hK _ ?_; clear hK K)
            refine wq_step (fun K hK => ?_)
            go_simp
            refine ⟨.agg #[.bool (a.cD k), .bool (a.cL k), .int .u16 (a.cC k)], fun w' hw' => ?_, hK _ ?_⟩
            · obtain ⟨cr, ct0, ct1, cc0, cc1, cc2⟩ := LA w' hw'
              simp [cc0, cc1, cc2]
            clear hK K
            refine wq_step (fun K hK => ?_)
            go_simp
            first | (refine ⟨_, fun _ _ => rfl, hK _ ?_⟩; clear hK K) | (refine hK _ ?_; clear hK K)
            refine wq_step (fun K hK => ?_)
            go_simp
            first | (refine ⟨_, fun _ _ => rfl, hK _ ?_⟩; clear hK K) | (refine hK _ ?_; clear hK K)
            refine wq_step (fun K hK => ?_)
            go_simp
            first | (refine ⟨_, fun _ _ => rfl, hK _ ?_⟩; clear hK K) | (refine hK _ ?_; clear hK K)
            refine wq_step (fun K hK => ?_)
            go_simp
            refine ⟨.agg #[.bool (b.cD k), .bool (b.cL k), .int .u16 (b.cC k)], fun w' hw' => ?_, hK _ ?_⟩
            · obtain ⟨cr, ct0, ct1, cc0, cc1, cc2⟩ := LB w' hw'
              simp [cc0, cc1, cc2]
            clear hK K
            refine wq_bin (t := 50) rfl rfl rfl rfl (fun w => run_eqGuard_agg w _ _ _ _ _ _ (by kernel_rfl)) Q3 ?_
            go_simp
            refine wq_step (fun K hK => ?_)
            go_simp
            first | (refine ⟨_, fun _ _ => rfl, hK _ ?_⟩; clear hK K) | (refine hK _ ?_; clear hK K)
            refine wq_nil ?_
            intro w1 hw1
            have A1 := A.below hw1 A.z
            have B1 := B.below hw1 B.z
            have BW1 := BW.trans (hw1.mono BW.size)
            clear LA LB S1 A B BW Q2 Q3 hw1
            go_wp2_with fail
            go_roundw
            case rel => exact ⟨k + 1, by omega, by go_num, A1, B1, BW1, HU.out.next ⟨H1.out.1 (by trivial), H2.out.1 (by trivial), H3.out.1 (by trivial)⟩⟩
            case measure => simp [intOf]; omega
    · have e : k = 16 := by omega
      subst e
      go_wp2_with fail
      have e16 : ((16 : Nat) : Int) = 16 := rfl
      simp only [e16]
      go_loopw [6] (fun i wr => ∃ k : Nat, k ≤ 32 ∧ i = .int .i64 k ∧ MemAt w.heap.size a wr ∧ MemAt (w.heap.size + 1) b wr ∧ Below w.heap.size w wr ∧ ∀ i, i < k → a.d i = b.d i) (fun i _ => 32 - (intOf i).toNat)
      case atStart => exact ⟨0, by omega, rfl, A, B, BW, fun i hi => by omega⟩
      case round =>
        clear A B BW
        obtain ⟨k, hk, rfl, A, B, BW, V⟩ := hrel
        have HV : Hid (∀ i, i < k → a.d i = b.d i) := V
        clear V
        by_cases hlt : k < 32
        · have LA := fun w' (hw' : Below wr.heap.size wr w') => int_at k hlt (A.below hw' A.z)
          have LB := fun w' (hw' : Below wr.heap.size wr w') => int_at k hlt (B.below hw' B.z)
          by_cases hd : a.d k = b.d k
          · have HD : Hid (a.d k = b.d k) := hd
            clear hd
            go_wp2_with fail
            refine wq_region (by kernel_rfl) (by kernel_rfl) ?_
            refine wq_step (fun K hK => ?_)
            go_simp
            first | (refine ⟨_, fun _ _ => rfl, hK _ ?_⟩; clear hK K) | (refine hK _ ?_; clear hK K)
            refine wq_step (fun K hK => ?_)
            go_simp
            first | (refine ⟨_, fun _ _ => rfl, hK _ ?_⟩; clear hK K) | (refine hK _ ?_; clear hK K)
            refine wq_step (fun K hK => ?_)
            go_simp
            first | (refine ⟨_, fun _ _ => rfl, hK _ ?_⟩; clear hK K) | (refine hK _ ?_; clear hK K)
            refine wq_step (fun K hK => ?_)
            go_simp
            refine ⟨.int .i16 (a.d k), fun w' hw' => ?_, hK _ ?_⟩
            · have c := LA w' hw'
              simp [c]
            clear hK K
            refine wq_step (fun K hK => ?_)
            go_simp
            first | (refine ⟨_, fun _ _ => rfl, hK _ ?_⟩; clear hK K) | (refine hK _ ?_; clear hK K)
            refine wq_step (fun K hK => ?_)
            go_simp
            first | (refine ⟨_, fun _ _ => rfl, hK _ ?_⟩; clear hK K) | (refine hK _ ?_; clear hK K)
            refine wq_step (fun K hK => ?_)
            go_simp
            first | (refine ⟨_, fun _ _ => rfl, hK _ ?_⟩; clear hK K) | (refine hK _ ?_; clear hK K)
            refine wq_step (fun K hK => ?_)
            go_simp
            refine ⟨.int .i16 (b.d k), fun w' hw' => ?_, hK _ ?_⟩
            · have c := LB w' hw'
              simp [c]
            clear hK K
            refine wq_step (fun K hK => ?_)
            go_simp
            refine ⟨.bool false, fun _ _ => by simp [HD.out], hK _ ?_⟩
            clear hK K
            refine wq_nil ?_
            intro w1 hw1
            have A1 := A.below hw1 A.z
            have B1 := B.below hw1 B.z
            have BW1 := BW.trans (hw1.mono BW.size)
            clear LA LB A B BW hw1
            go_wp2_with fail
            go_roundw
            case rel =>
              refine ⟨k + 1, by omega, by go_num, A1, B1, BW1, fun i hi => ?_⟩
              by_cases e : i = k
              · rw [e]; exact HD.out
              · exact HV.out i (by omega)
            case measure => simp [intOf]; omega
          · have HD : Hid (¬ a.d k = b.d k) := hd
            clear hd
            go_wp2_with fail
            refine wq_region (by kernel_rfl) (by kernel_rfl) ?_
            refine wq_step (fun K hK => ?_)
            go_simp
            first | (refine ⟨_, fun _ _ => rfl, hK _ ?_⟩; clear hK K) | (refine hK _ ?_; clear hK K)
            refine wq_step (fun K hK => ?_)
            go_simp
            first | (refine ⟨_, fun _ _ => rfl, hK _ ?_⟩; clear hK K) | (refine hK _ ?_; clear hK K)
            refine wq_step (fun K hK => ?_)
            go_simp
            first | (refine ⟨_, fun _ _ => rfl, hK _ ?_⟩; clear hK K) | (refine hK _ ?_; clear hK K)
            refine wq_step (fun K hK => ?_)
            go_simp
            refine ⟨.int .i16 (a.d k), fun w' hw' => ?_, hK _ ?_⟩
            · have c := LA w' hw'
              simp [c]
            clear hK K
            refine wq_step (fun K hK => ?_)
            go_simp
            first | (refine ⟨_, fun _ _ => rfl, hK _ ?_⟩; clear hK K) | (refine hK _ ?_; clear hK K)
            refine wq_step (fun K hK => ?_)
            go_simp
            first | (refine ⟨_, fun _ _ => rfl, hK _ ?_⟩; clear hK K) | (refine hK _ ?_; clear hK K)
            refine wq_step (fun K hK => ?_)
            go_simp
            first | (refine ⟨_, fun _ _ => rfl, hK _ ?_⟩; clear hK K) | (refine hK _ ?_; clear hK K)
            refine wq_step (fun K hK => ?_)
            go_simp
            refine ⟨.int .i16 (b.d k), fun w' hw' => ?_, hK _ ?_⟩
            · have c := LB w' hw'
              simp [c]
            clear hK K
            refine wq_step (fun K hK => ?_)
            go_simp
            refine ⟨.bool true, fun _ _ => by simp [HD.out], hK _ ?_⟩
            clear hK K
            refine wq_nil ?_
            intro w1 hw1
            have BW1 := BW.trans (hw1.mono BW.size)
            clear LA LB A B BW hw1
            go_wp2_with fail
            go_ret
            exact ⟨false, rfl, ⟨fun h => by (cases h), fun h => absurd (h.d k hlt) HD.out⟩, BW1⟩
        · have e : k = 32 := by omega
          subst e
          obtain ⟨a0, a1, a2, a3, a4, a5, a6, a7⟩ := ends_at A
          obtain ⟨b0, b1, b2, b3, b4, b5, b6, b7⟩ := ends_at B
          have HB : Hid (Below w.heap.size w wr) := BW
          clear A B BW
          by_cases h0 : a.x = b.x
          · skip
            by_cases h1 : a.y = b.y
            · skip
              by_cases h2 : a.m = b.m
              · skip
                by_cases h3 : a.s = b.s
                · skip
                  by_cases h4 : a.e = b.e
                  · skip
                    by_cases h5 : a.time = b.time
                    · skip
                      by_cases h6 : a.ran = b.ran
                      · skip
                        by_cases h7 : a.fault = b.fault
                        · skip
                          go_wp2_with fail
                          go_ret
                          exact ⟨true, rfl, ⟨fun _ => ⟨h0, h1, h2, h3, h4, fun i hi => (HU.out i hi).2.1.1, fun i hi => (HU.out i hi).2.1.2, fun i hi => (HU.out i hi).2.2.1, fun i hi => (HU.out i hi).2.2.2.1, fun i hi => (HU.out i hi).2.2.2.2, HV.out, fun i hi => (HU.out i hi).1, h5, h6, h7⟩, fun _ => rfl⟩, HB.out⟩
                        · go_wp2_with fail
                          go_ret
                          exact ⟨a.fault == b.fault, rfl, ⟨fun h => absurd (by simpa using h) h7, fun h => absurd h.fault h7⟩, HB.out⟩
                      · go_wp2_with fail
                        go_ret
                        exact ⟨false, rfl, ⟨fun h => by (cases h), fun h => absurd h.ran h6⟩, HB.out⟩
                    · go_wp2_with fail
                      go_ret
                      exact ⟨false, rfl, ⟨fun h => by (cases h), fun h => absurd h.time h5⟩, HB.out⟩
                  · go_wp2_with fail
                    go_ret
                    exact ⟨false, rfl, ⟨fun h => by (cases h), fun h => absurd h.e h4⟩, HB.out⟩
                · go_wp2_with fail
                  go_ret
                  exact ⟨false, rfl, ⟨fun h => by (cases h), fun h => absurd h.s h3⟩, HB.out⟩
              · go_wp2_with fail
                go_ret
                exact ⟨false, rfl, ⟨fun h => by (cases h), fun h => absurd h.m h2⟩, HB.out⟩
            · go_wp2_with fail
              go_ret
              exact ⟨false, rfl, ⟨fun h => by (cases h), fun h => absurd h.y h1⟩, HB.out⟩
          · go_wp2_with fail
            go_ret
            exact ⟨false, rfl, ⟨fun h => by (cases h), fun h => absurd h.x h0⟩, HB.out⟩

end Go.Proofs.Ytdhoimjkgicneab
