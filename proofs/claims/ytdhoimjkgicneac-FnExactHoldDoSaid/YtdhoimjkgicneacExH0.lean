/- Loading a store; a copied store is a store. -/
import Derived.Test.YtdhoimjkgicneacHolD
import Derived.Test.YtdhoimjkgicneacHelD
namespace Go.Proofs.Ytdhoimjkgicneac
open Go Go.RowKit

theorem op_loadH {o : Oper} {a : Act} {w : World} {K : Act → World → Prop} {Q : Exit → Act → World → Prop} {t : TypeId} {p : Operand} {u : Value} (ho : o.op = .load t p)
    (h : (Instr.loadAt t (a.eval p)).run Try.prog w = .ok u w) (hK : K (a.put o.dst u) w) : o.wp Try.prog a w K Q := by
  have e : (execOp a.eval o).run Try.prog w = .ok (.value u) w := by
    simp only [execOp, ho, Sem.run_bind, h, Result.andThen, Sem.run_pure]
  unfold Oper.wp
  rw [e]
  exact hK
theorem list_loadH {ops : Array Oper} {Q : Exit → Act → World → Prop} {rest : List Oper} {o : Oper} {a : Act} {w : World} {t : TypeId} {p : Operand} {u x : Value}
    (ho : o.op = .load t p) (hx : a.eval p = x) (hg : Region.wanted o (yielded ops a.tmps) = true)
    (h : (Instr.loadAt t x).run Try.prog w = .ok u w) (hK : wpList Try.prog ops Q rest (a.put o.dst u) w) : wpList Try.prog ops Q (o :: rest) a w := by
  rw [wpList, if_pos hg]
  subst hx
  exact .inl (op_loadH ho h hK)

/-- A store's copy is a store. -/
theorem rom_at {m t m' t' : Nat} {xs ys : List Nat} {oa ob : Value} {w : World} (hm : m ≤ 255) (ht : t ≤ 255) (hm' : m' ≤ 255) (ht' : t' ≤ 255) (hx : ∀ x ∈ xs, x ≤ 255) (hy : ∀ x ∈ ys, x ≤ 255) (lx : xs.length ≤ 2000000) (ly : ys.length ≤ 2000000)
    (ha : BytesAt oa xs w) (hb : BytesAt ob ys w) : RomAt (.agg #[.int .u8 (m : Int), .int .u8 (t : Int), oa, .int .u8 (m' : Int), .int .u8 (t' : Int), ob]) ⟨⟨m, t, xs⟩, ⟨m', t', ys⟩⟩ w :=
  ⟨⟨hm, ht, ⟨hx, lx⟩, hm', ht', ⟨hy, ly⟩⟩, oa, ob, rfl, ha, hb⟩

theorem load_romL {b : Nat} {c : Array Value} {w : World} (hs : c.size = 6) (h : ∀ k u, c[k]? = some u → w.cell? ⟨b, k, none⟩ = some u) : (Instr.loadAt 26 (.pointer (some ⟨b, 0, none⟩))).run Try.prog w = .ok (.agg c) w := by
  have ha : (isAgg 26).run Try.prog w = .ok true w := by kernel_rfl
  have hz : (sizeOf 26).run Try.prog w = .ok 6 w := by kernel_rfl
  have hl : (loadCells ⟨b, 0, none⟩ 6).run Try.prog w = .ok c w := by
    have := run_loadCells_list (P := Try.prog) w ⟨b, 0, none⟩ c.toList (fun j u hu => by
      rw [addr_add, Nat.zero_add]
      exact h j u (by simpa using hu))
    simpa [hs] using this
  simp only [Instr.loadAt, Instr.sureAddr, Sem.run_bind, Sem.run_pure, Result.andThen, loadVar, ha, hz, if_true, hl]
theorem load_romI {b : Nat} {c : Array Value} {w : World} (hs : c.size = 6) (h : ∀ k u, c[k]? = some u → w.cell? ⟨b, k, none⟩ = some u) : (Instr.loadAt 32 (.pointer (some ⟨b, 0, none⟩))).run Try.prog w = .ok (.agg c) w := by
  have ha : (isAgg 32).run Try.prog w = .ok true w := by kernel_rfl
  have hz : (sizeOf 32).run Try.prog w = .ok 6 w := by kernel_rfl
  have hl : (loadCells ⟨b, 0, none⟩ 6).run Try.prog w = .ok c w := by
    have := run_loadCells_list (P := Try.prog) w ⟨b, 0, none⟩ c.toList (fun j u hu => by
      rw [addr_add, Nat.zero_add]
      exact h j u (by simpa using hu))
    simpa [hs] using this
  simp only [Instr.loadAt, Instr.sureAddr, Sem.run_bind, Sem.run_pure, Result.andThen, loadVar, ha, hz, if_true, hl]

end Go.Proofs.Ytdhoimjkgicneac
