/- Bytes are put behind bytes. -/
import Derived.Test.YtdhoimjkgicneacHolA
namespace Go.Proofs.Ytdhoimjkgicneac
open Go Go.RowKit

theorem addr_add (b off j : Nat) : (⟨b, off, none⟩ : Addr).add j = ⟨b, off + j, none⟩ := by unfold Addr.add; split <;> simp_all

/-- Bytes behind bytes that are owned: there is room, or they move. -/
theorem run_app (base : Nat) {v s : Value} {xs ys : List Nat} {w : World} (ty : TypeId) (h : Own base v xs w) (hs : BytesAt s ys w) (hl : xs.length + ys.length ≤ 8000000) (hb : base ≤ w.heap.size) :
    ∃ v' w', (Builtin.append_ #[22, 22] ty #[v, s]).run Try.prog w = .ok v' w' ∧ Own base v' (xs ++ ys) w' ∧ w.grownBy w' v.ownBlock ∧ (v'.ownBlock = v.ownBlock ∨ v'.ownBlock = some w.heap.size) := by
  obtain ⟨i, hi, hz, h1, h2⟩ := info_parts info_byte
  rcases hs with ⟨b, off, cap, rfl, hz', hc, he⟩ | ⟨rfl, rfl⟩
  · obtain ⟨v', w', hr, ho, hg, -, ha⟩ := run_append_own_at (P := Try.prog) w base 22 ty 5 i (.int .u8 0) 1 1 Try.underlying22 hi hz h1 h2 rfl (by decide) v xs.length (bytesV xs) h ⟨b, off, none⟩ ys.length cap (bytesV ys) (by simp [bytesV_len]) (by
        intro j u hj
        rw [bytesV_get] at hj
        cases hy : ys[j]? with
        | none => rw [hy] at hj; simp at hj
        | some x =>
          rw [hy] at hj
          simp at hj
          rw [addr_add, he j x hy, hj]) (bytesV_one ys) (by unfold maxLen; omega) (by omega) hb
    refine ⟨v', w', hr, ?_, hg, ha⟩
    unfold Own
    rw [bytesV_append, List.length_append]
    exact ho
  · refine ⟨v, w, run_append_owned_none (P := Try.prog) (w := w) base 22 ty 5 i 1 Try.underlying22 hi v xs.length (bytesV xs) h, ?_, World.grownBy.refl w _, Or.inl rfl⟩
    simpa using h

theorem list_app (base : Nat) {v s : Value} {xs ys : List Nat} {w : World} {ops : Array Oper} {rest : List Oper} {o : Oper} {a : Act} {Q : Exit → Act → World → Prop} (hgd : o.guard = none) (p x : Operand)
    (ho : o.op = .call { callee := .builtin .append, args := #[p, x], argTypes := #[22, 22] }) (hp : a.eval p = v) (hx : a.eval x = s)
    (h : Own base v xs w) (hs : BytesAt s ys w) (hl : xs.length + ys.length ≤ 8000000) (hb : base ≤ w.heap.size)
    (hK : ∀ v' w', Own base v' (xs ++ ys) w' → w.grownBy w' v.ownBlock → (v'.ownBlock = v.ownBlock ∨ v'.ownBlock = some w.heap.size) → wpList Try.prog ops Q rest (a.put o.dst v') w') :
    wpList Try.prog ops Q (o :: rest) a w := by
  refine wpList_plain hgd fun K hK' => ?_
  obtain ⟨v', w', hr, h2, h3, h4⟩ := run_app base o.type h hs hl hb
  unfold Oper.wp execOp
  simp only [ho, resolve, invoke, builtin, Sem.run_bind, Sem.run_pure, Result.andThen_ok, List.map_toArray, List.map_cons, List.map_nil, hp, hx, hr]
  exact hK' _ _ (hK v' w' h2 h3 h4)

theorem own_nil (base : Nat) (w : World) : Own base (.slice none 0 0) [] w := World.ownsRow_nil w base 5 1

theorem grown_below {w w' : World} {row : Option Nat} {B : Nat} (h : w.grownBy w' row) (hB : B ≤ w.heap.size) (hr : ∀ g, row = some g → B ≤ g) : Below B w w' :=
  ⟨h.os, h.tape, h.output, h.size, fun i hi => h.block i (by omega) (fun e => by have := hr i e.symm; omega)⟩

theorem grown_cell {w w' : World} {row : Option Nat} (h : w.grownBy w' row) {p : Addr} (hp : p.block < w.heap.size) (hn : some p.block ≠ row) : w'.cell? p = w.cell? p := World.cell?_of_block (h.block p.block hp hn)
theorem grown_frozen {w w' : World} {row : Option Nat} (h : w.grownBy w' row) {p : Addr} (hp : p.block < w.heap.size) (hn : some p.block ≠ row) : w'.frozen? p = w.frozen? p := World.frozen?_of_block (h.block p.block hp hn)

theorem Own.below {base B : Nat} {v : Value} {xs : List Nat} {w w' : World} (h : Own base v xs w) (hb : Below B w w') (hB : w.heap.size ≤ B) : Own base v xs w' :=
  h.kept fun g hg => hb.block g (by have := (World.ownsRow.lt h g hg).2; omega)
theorem Own.setCell {base : Nat} {v : Value} {xs : List Nat} {w : World} (h : Own base v xs w) {a : Addr} (ha : v.ownBlock ≠ some a.block) (u : Value) : Own base v xs (w.setCell a u) :=
  h.kept fun g hg => Below.heap_setCell w a u g (fun e => ha (by rw [hg, e]))

theorem bytes_one (b : Nat) (w : World) (t : TypeId) (n : Nat) : BytesAt (.slice (some ⟨w.heap.size, 0, none⟩) 1 n) [b] (w.alloc (.cells #[.int .u8 (b : Int)] t)) ∨ n = 0 := by
  by_cases h : n = 0
  · exact Or.inr h
  · refine Or.inl (Or.inl ⟨w.heap.size, 0, n, rfl, by simp, by simp; omega, fun i x hx => ?_⟩)
    match i, hx with
    | 0, hx => simp at hx; subst hx; simp

end Go.Proofs.Ytdhoimjkgicneac
