/- Texts of this proof laid together: MsA0, MsA. -/
import Derived.Test.YtdhoimjkgicneaaDoorLot2
import Derived.ChangeKeysEq
import Derived.Laws.StructEq
/- How rows of cells are compared: arrays of numbers, and whole memories without real numbers. -/
namespace Go.Proofs.YtdhoimjkgicneaaDoor
open Go Go.RowKit

section
variable {P : Program} (w : World)

/-- A part of two rows is compared. -/
def EqPart (P : Program) (d : Nat) (xs ys : Array Value) (t : TypeId) (off : Nat) (w : World) (Q : Prop) : Prop :=
  ∃ (a c : Value) (b : Bool), (part t xs off).run P w = .ok a w ∧ (part t ys off).run P w = .ok c w ∧ (Op.equalIn d t a c).run P w = .ok b w ∧ (b = true ↔ Q)

theorem eqFields_iff (d : Nat) (xs ys : Array Value) (Q : Field → Prop) : ∀ fs : List Field, (∀ f ∈ fs, f.name ≠ "_" ∧ EqPart P d xs ys f.type f.offset w (Q f)) →
    ∃ b : Bool, (Op.eqFields d xs ys fs).run P w = .ok b w ∧ (b = true ↔ ∀ f ∈ fs, Q f)
  | [], _ => ⟨true, by simp [Op.eqFields], by simp⟩
  | f :: fs, h => by
    obtain ⟨hn, a, c, b, h1, h2, h3, h4⟩ := h f (by simp)
    obtain ⟨b', g1, g2⟩ := eqFields_iff d xs ys Q fs (fun f hf => h f (by simp [hf]))
    simp only [Op.eqFields, if_pos hn, Sem.run_bind, h1, h2, h3, Result.andThen_ok]
    cases b
    · refine ⟨false, by simp, ?_⟩
      constructor
      · intro e; cases e
      · intro e
        have := h4.2 (e f (by simp))
        cases this
    · refine ⟨b', by simpa using g1, ?_⟩
      rw [g2]
      constructor
      · intro e x hx
        rcases List.mem_cons.1 hx with rfl | hx
        · exact h4.1 rfl
        · exact e x hx
      · exact fun e x hx => e x (by simp [hx])

theorem eqItems_iff (d : Nat) (e : TypeId) (n : Nat) (xs ys : Array Value) (Q : Nat → Prop) : ∀ is : List Nat, (∀ i ∈ is, EqPart P d xs ys e (i * n) w (Q i)) →
    ∃ b : Bool, (Op.eqItems d e n xs ys is).run P w = .ok b w ∧ (b = true ↔ ∀ i ∈ is, Q i)
  | [], _ => ⟨true, by simp [Op.eqItems], by simp⟩
  | i :: is, h => by
    obtain ⟨a, c, b, h1, h2, h3, h4⟩ := h i (by simp)
    obtain ⟨b', g1, g2⟩ := eqItems_iff d e n xs ys Q is (fun f hf => h f (by simp [hf]))
    simp only [Op.eqItems, Sem.run_bind, h1, h2, h3, Result.andThen_ok]
    cases b
    · refine ⟨false, by simp, ?_⟩
      constructor
      · intro e; cases e
      · intro e
        have := h4.2 (e i (by simp))
        cases this
    · refine ⟨b', by simpa using g1, ?_⟩
      rw [g2]
      constructor
      · intro e x hx
        rcases List.mem_cons.1 hx with rfl | hx
        · exact h4.1 rfl
        · exact e x hx
      · exact fun e x hx => e x (by simp [hx])

theorem part_one {t : TypeId} {xs : Array Value} {off : Nat} {v : Value} (ha : (isAgg t).run P w = .ok false w) (h : xs[off]? = some v) : (part t xs off).run P w = .ok v w := by
  simp [part, ha, h]
theorem part_agg {t : TypeId} {xs : Array Value} {off n : Nat} (ha : (isAgg t).run P w = .ok true w) (hs : (sizeOf t).run P w = .ok n w) : (part t xs off).run P w = .ok (.agg (xs.extract off (off + n))) w := by
  simp [part, ha, hs]

theorem eq_int {d : Nat} {xs ys : Array Value} {t : TypeId} {off : Nat} {k : IntKind} {a c : Int} (ha : (isAgg t).run P w = .ok false w) (hu : P.underlying t = some (.int k)) (h1 : xs[off]? = some (.int k a)) (h2 : ys[off]? = some (.int k c)) :
    EqPart P (d + 1) xs ys t off w (xs[off]? = ys[off]?) :=
  ⟨_, _, _, part_one w ha h1, part_one w ha h2, run_equalIn_int w d t k k a c hu, by rw [h1, h2]; simp⟩
theorem eq_bool {d : Nat} {xs ys : Array Value} {t : TypeId} {off : Nat} {a c : Bool} (ha : (isAgg t).run P w = .ok false w) (hu : P.underlying t = some .bool) (h1 : xs[off]? = some (.bool a)) (h2 : ys[off]? = some (.bool c)) :
    EqPart P (d + 1) xs ys t off w (xs[off]? = ys[off]?) :=
  ⟨_, _, _, part_one w ha h1, part_one w ha h2, run_equalIn_bool' w d t a c hu, by rw [h1, h2]; simp⟩
end

theorem extract_row (f : Nat → Value) {n off m : Nat} (h : off + m ≤ n) : (rowOf f n).extract off (off + m) = rowOf (fun j => f (off + j)) m := by
  apply Array.ext
  · simp [rowOf]; omega
  · intro i h1 h2
    simp [rowOf]

end Go.Proofs.YtdhoimjkgicneaaDoor

/- Two arrays of one kind of numbers, compared. -/
namespace Go.Proofs.YtdhoimjkgicneaaDoor
open Go Go.RowKit

/-- Two arrays of one kind of numbers. -/
theorem eql_words (f g : Nat → Int) (w : World) : ∃ b : Bool, (Op.equalIn 10000 114 (.agg (rowOf (fun i => .int .u64 (f i)) 16)) (.agg (rowOf (fun i => .int .u64 (g i)) 16))).run Tryd.prog w = .ok b w ∧ (b = true ↔ ∀ i, i < 16 → f i = g i) := by
  have e := run_equalIn_array (P := Tryd.prog) w 9999 (t := 114) (e := 50) (n := 16) (rowOf (fun i => .int .u64 (f i)) 16) (rowOf (fun i => .int .u64 (g i)) 16) Tryd.underlying114 (i := (Tryd.prog.info? 50).getD default) (by kernel_rfl)
  have hc : Tryd.prog.cellsOf 50 = 1 := by kernel_rfl
  rw [hc] at e
  obtain ⟨b, h1, h2⟩ := eqItems_iff (P := Tryd.prog) w 9999 50 1 (rowOf (fun i => .int .u64 (f i)) 16) (rowOf (fun i => .int .u64 (g i)) 16) (fun i => f i = g i) (List.range 16) (fun i hi => by
    have hi : i < 16 := by simpa using hi
    have c1 : (rowOf (fun i => (.int .u64 (f i) : Value)) 16)[i * 1]? = some (.int .u64 (f i)) := by rw [Nat.mul_one, rowOf_get _ hi]
    have c2 : (rowOf (fun i => (.int .u64 (g i) : Value)) 16)[i * 1]? = some (.int .u64 (g i)) := by rw [Nat.mul_one, rowOf_get _ hi]
    obtain ⟨x, y, b, g1, g2, g3, g4⟩ := eq_int (P := Tryd.prog) w (d := 9998) (t := 50) (by kernel_rfl) Tryd.underlying50 c1 c2
    refine ⟨x, y, b, g1, g2, g3, ?_⟩
    rw [g4, c1, c2]
    simp)
  exact ⟨b, e.trans h1, by rw [h2]; simp⟩

end Go.Proofs.YtdhoimjkgicneaaDoor
