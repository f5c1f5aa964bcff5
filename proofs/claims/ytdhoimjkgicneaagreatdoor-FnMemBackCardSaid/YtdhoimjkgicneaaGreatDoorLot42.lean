/- Texts of this proof laid together: MsA0, MsC, MsX. -/
import Derived.Test.YtdhoimjkgicneaaGreatDoorLot1
import Derived.ChangeKeysEq
import Derived.Laws.StructEq
import Derived.Test.YtdhoimjkgicneaaGreatDoorLot29
import Derived.Test.YtdhoimjkgicneaaGreatDoorLot9
import Derived.Test.YtdhoimjkgicneaaGreatDoorLot28
import Derived.Deep.Cut
import Derived.Test.YtdhoimjkgicneaaGreatDoorLot40
import Derived.Test.YtdhoimjkgicneaaGreatDoorLot12
/- How rows of cells are compared: arrays of numbers, and whole memories without real numbers. -/
namespace Go.Proofs.YtdhoimjkgicneaaGreatDoor
open Go Go.RowKit

section
variable {P : Program} (w : World)

/-- A part of two rows is compared. -/
def EqPart (P : Program) (d : Nat) (xs ys : Array Value) (t : TypeId) (off : Nat) (w : World) (Q : Prop) : Prop :=
  ∃ (a c : Value) (b : Bool), (part t xs off).run P w = .ok a w ∧ (part t ys off).run P w = .ok c w ∧ (Op.equalIn d t a c).run P w = .ok b w ∧ (b = true ↔ Q)

theorem eqFields_iff (d : Nat) (xs ys : Array Value) (Q : Field → Prop) : ∀ fs : List Field, (∀ f ∈ fs, f.name ≠ "_" ∧ EqPart P d xs ys f.type f.offset w (Q f)) →
    ∃ b : Bool, (Op.eqFields d xs ys fs).run P w = .ok b w ∧ (b = true ↔ ∀ f ∈ fs, Q f)
  | [], _ => ⟨true, by simp [Op.eqFields], by simp⟩
  | f :: fs, h => by
    obtain ⟨hn, a, c, b, h1, h2, h3, h4⟩ := h f (by simp)
    obtain ⟨b', g1, g2⟩ := eqFields_iff d xs ys Q fs (fun f hf => h f (by simp [hf]))
    simp only [Op.eqFields, if_pos hn, Sem.run_bind, h1, h2, h3, Result.andThen_ok]
    cases b
    · refine ⟨false, by simp, ?_⟩
      constructor
      · intro e; cases e
      · intro e
        have := h4.2 (e f (by simp))
        cases this
    · refine ⟨b', by simpa using g1, ?_⟩
      rw [g2]
      constructor
      · intro e x hx
        rcases List.mem_cons.1 hx with rfl | hx
        · exact h4.1 rfl
        · exact e x hx
      · exact fun e x hx => e x (by simp [hx])

theorem eqItems_iff (d : Nat) (e : TypeId) (n : Nat) (xs ys : Array Value) (Q : Nat → Prop) : ∀ is : List Nat, (∀ i ∈ is, EqPart P d xs ys e (i * n) w (Q i)) →
    ∃ b : Bool, (Op.eqItems d e n xs ys is).run P w = .ok b w ∧ (b = true ↔ ∀ i ∈ is, Q i)
  | [], _ => ⟨true, by simp [Op.eqItems], by simp⟩
  | i :: is, h => by
    obtain ⟨a, c, b, h1, h2, h3, h4⟩ := h i (by simp)
    obtain ⟨b', g1, g2⟩ := eqItems_iff d e n xs ys Q is (fun f hf => h f (by simp [hf]))
    simp only [Op.eqItems, Sem.run_bind, h1, h2, h3, Result.andThen_ok]
    cases b
    · refine ⟨false, by simp, ?_⟩
      constructor
      · intro e; cases e
      · intro e
        have := h4.2 (e i (by simp))
        cases this
    · refine ⟨b', by simpa using g1, ?_⟩
      rw [g2]
      constructor
      · intro e x hx
        rcases List.mem_cons.1 hx with rfl | hx
        · exact h4.1 rfl
        · exact e x hx
      · exact fun e x hx => e x (by simp [hx])

theorem part_one {t : TypeId} {xs : Array Value} {off : Nat} {v : Value} (ha : (isAgg t).run P w = .ok false w) (h : xs[off]? = some v) : (part t xs off).run P w = .ok v w := by
  simp [part, ha, h]
theorem part_agg {t : TypeId} {xs : Array Value} {off n : Nat} (ha : (isAgg t).run P w = .ok true w) (hs : (sizeOf t).run P w = .ok n w) : (part t xs off).run P w = .ok (.agg (xs.extract off (off + n))) w := by
  simp [part, ha, hs]

theorem eq_int {d : Nat} {xs ys : Array Value} {t : TypeId} {off : Nat} {k : IntKind} {a c : Int} (ha : (isAgg t).run P w = .ok false w) (hu : P.underlying t = some (.int k)) (h1 : xs[off]? = some (.int k a)) (h2 : ys[off]? = some (.int k c)) :
    EqPart P (d + 1) xs ys t off w (xs[off]? = ys[off]?) :=
  ⟨_, _, _, part_one w ha h1, part_one w ha h2, run_equalIn_int w d t k k a c hu, by rw [h1, h2]; simp⟩
theorem eq_bool {d : Nat} {xs ys : Array Value} {t : TypeId} {off : Nat} {a c : Bool} (ha : (isAgg t).run P w = .ok false w) (hu : P.underlying t = some .bool) (h1 : xs[off]? = some (.bool a)) (h2 : ys[off]? = some (.bool c)) :
    EqPart P (d + 1) xs ys t off w (xs[off]? = ys[off]?) :=
  ⟨_, _, _, part_one w ha h1, part_one w ha h2, run_equalIn_bool' w d t a c hu, by rw [h1, h2]; simp⟩
end

theorem extract_row (f : Nat → Value) {n off m : Nat} (h : off + m ≤ n) : (rowOf f n).extract off (off + m) = rowOf (fun j => f (off + j)) m := by
  apply Array.ext
  · simp [rowOf]; omega
  · intro i h1 h2
    simp [rowOf]

end Go.Proofs.YtdhoimjkgicneaaGreatDoor

/- How two memories without real numbers are compared, cell by cell. -/
namespace Go.Proofs.YtdhoimjkgicneaaGreatDoor
open Go Go.RowKit

section
variable {P : Program} (w : World)

/-- Two rows of one type are compared. -/
def EqRow (P : Program) (d : Nat) (t : TypeId) (n : Nat) (f g : Nat → Value) (w : World) : Prop :=
  ∃ b : Bool, (Op.equalIn d t (.agg (rowOf f n)) (.agg (rowOf g n))).run P w = .ok b w ∧ (b = true ↔ ∀ j, j < n → f j = g j)

theorem part_row {d : Nat} {t : TypeId} {n m off : Nat} {f g : Nat → Value} (ha : (isAgg t).run P w = .ok true w) (hs : (sizeOf t).run P w = .ok m w) (hn : off + m ≤ n)
    (h : EqRow P d t m (fun j => f (off + j)) (fun j => g (off + j)) w) : EqPart P d (rowOf f n) (rowOf g n) t off w (∀ j, j < m → f (off + j) = g (off + j)) := by
  obtain ⟨b, h1, h2⟩ := h
  refine ⟨_, _, b, part_agg w ha hs, part_agg w ha hs, ?_, h2⟩
  rw [extract_row f hn, extract_row g hn]
  exact h1

theorem part_int {d : Nat} {t : TypeId} {n off : Nat} {f g : Nat → Value} {k : IntKind} {a c : Int} (ha : (isAgg t).run P w = .ok false w) (hu : P.underlying t = some (.int k)) (hn : off < n) (h1 : f off = .int k a) (h2 : g off = .int k c) :
    EqPart P (d + 1) (rowOf f n) (rowOf g n) t off w (∀ j, j < 1 → f (off + j) = g (off + j)) := by
  obtain ⟨x, y, b, g1, g2, g3, g4⟩ := eq_int (P := P) w (d := d) ha hu ((rowOf_get f hn).trans (by rw [h1])) ((rowOf_get g hn).trans (by rw [h2]))
  refine ⟨x, y, b, g1, g2, g3, ?_⟩
  rw [g4, rowOf_get f hn, rowOf_get g hn]
  constructor
  · intro e j hj
    have : j = 0 := by omega
    subst this
    exact Option.some.inj e
  · intro e
    exact congrArg some (e 0 (by omega))
theorem part_bool {d : Nat} {t : TypeId} {n off : Nat} {f g : Nat → Value} {a c : Bool} (ha : (isAgg t).run P w = .ok false w) (hu : P.underlying t = some .bool) (hn : off < n) (h1 : f off = .bool a) (h2 : g off = .bool c) :
    EqPart P (d + 1) (rowOf f n) (rowOf g n) t off w (∀ j, j < 1 → f (off + j) = g (off + j)) := by
  obtain ⟨x, y, b, g1, g2, g3, g4⟩ := eq_bool (P := P) w (d := d) ha hu ((rowOf_get f hn).trans (by rw [h1])) ((rowOf_get g hn).trans (by rw [h2]))
  refine ⟨x, y, b, g1, g2, g3, ?_⟩
  rw [g4, rowOf_get f hn, rowOf_get g hn]
  constructor
  · intro e j hj
    have : j = 0 := by omega
    subst this
    exact Option.some.inj e
  · intro e
    exact congrArg some (e 0 (by omega))
theorem part_zero {d : Nat} {t : TypeId} {n off : Nat} {f g : Nat → Value} (ha : (isAgg t).run P w = .ok false w) (hu : P.underlying t = some (.float .f64)) (hn : off < n) (h1 : f off = .float .f64 0) (h2 : g off = .float .f64 0) :
    EqPart P (d + 1) (rowOf f n) (rowOf g n) t off w (∀ j, j < 1 → f (off + j) = g (off + j)) := by
  refine ⟨_, _, true, part_one w ha ((rowOf_get f hn).trans (by rw [h1])), part_one w ha ((rowOf_get g hn).trans (by rw [h2])), ?_, ?_⟩
  · have e : Op.floatEq .f64 0 0 = true := by decide +kernel
    simp [Op.equalIn, run_underlying hu, e]
  · refine ⟨fun _ j hj => ?_, fun _ => rfl⟩
    have : j = 0 := by omega
    subst this
    rw [Nat.add_zero, h1, h2]

theorem row_array {d : Nat} {t e : TypeId} {len m : Nat} {i : TypeInfo} {f g : Nat → Value} (hm : 0 < m) (hu : P.underlying t = some (.array len e)) (hi : P.info? e = some i) (hc : P.cellsOf e = m)
    (h : ∀ i, i < len → EqPart P d (rowOf f (len * m)) (rowOf g (len * m)) e (i * m) w (∀ j, j < m → f (i * m + j) = g (i * m + j))) : EqRow P (d + 1) t (len * m) f g w := by
  obtain ⟨b, h1, h2⟩ := eqItems_iff (P := P) w d e m (rowOf f (len * m)) (rowOf g (len * m)) (fun i => ∀ j, j < m → f (i * m + j) = g (i * m + j)) (List.range len) (fun i hi => h i (by simpa using hi))
  refine ⟨b, (run_equalIn_array (P := P) w d _ _ hu hi).trans (by rw [hc]; exact h1), ?_⟩
  rw [h2]
  constructor
  · intro e k hk
    have hlt : k / m < len := (Nat.div_lt_iff_lt_mul hm).2 hk
    have := e (k / m) (by simpa using hlt) (k % m) (Nat.mod_lt _ hm)
    have ek : k / m * m + k % m = k := by rw [Nat.mul_comm]; exact Nat.div_add_mod k m
    rwa [ek] at this
  · intro e i hi j hj
    have hi : i < len := by simpa using hi
    refine e _ ?_
    have : (i + 1) * m ≤ len * m := Nat.mul_le_mul_right _ hi
    rw [Nat.add_mul, Nat.one_mul] at this
    omega

theorem row_struct {d : Nat} {t : TypeId} {n : Nat} {f g : Nat → Value} (Q : Field → Prop) (hu : P.underlying t = some (.struct (P.fieldsOf t))) (hp : P.stoodInHeld t = false)
    (h : ∀ x ∈ (P.fieldsOf t).toList, x.name ≠ "_" ∧ EqPart P d (rowOf f n) (rowOf g n) x.type x.offset w (Q x)) (hQ : (∀ x ∈ (P.fieldsOf t).toList, Q x) ↔ ∀ j, j < n → f j = g j) : EqRow P (d + 1) t n f g w := by
  obtain ⟨b, h1, h2⟩ := eqFields_iff (P := P) w d (rowOf f n) (rowOf g n) Q (P.fieldsOf t).toList h
  exact ⟨b, (run_equalIn_struct w d t _ _ hu hp).trans h1, h2.trans hQ⟩
end

/-- Which cells a field has. -/
def fieldN (off : Nat) : Nat := if off = 5 then 32 else if off = 37 then 48 else if off = 85 then 32 else if off = 117 then 16 else 1

theorem memFields : (Tryz.prog.fieldsOf 37).toList.map (fun f => (f.name != "_", f.type, f.offset)) =
    [(true, 23, 0), (true, 23, 1), (true, 24, 2), (true, 25, 3), (true, 23, 4), (true, 28, 5), (true, 31, 37), (true, 33, 85), (true, 35, 117), (true, 23, 133), (true, 4, 134), (true, 4, 135)] := by kernel_rfl
theorem timerFields : (Tryz.prog.fieldsOf 27).toList.map (fun f => (f.name != "_", f.type, f.offset)) = [(true, 4, 0), (true, 25, 1)] := by kernel_rfl
theorem counterFields : (Tryz.prog.fieldsOf 30).toList.map (fun f => (f.name != "_", f.type, f.offset)) = [(true, 4, 0), (true, 4, 1), (true, 25, 2)] := by kernel_rfl

theorem eq_timer (d : Nat) (f g : Nat → Value) (w : World) {a a' : Bool} {c c' : Int} (h0 : f 0 = .bool a) (h1 : f 1 = .int .u16 c) (g0 : g 0 = .bool a') (g1 : g 1 = .int .u16 c') : EqRow Tryz.prog (d + 2) 27 2 f g w := by
  refine row_struct (P := Tryz.prog) w (d := d + 1) (fun x => ∀ j, j < 1 → f (x.offset + j) = g (x.offset + j)) (by kernel_rfl) (by kernel_rfl) (fun x hx => ?_) ⟨fun h j hj => ?_, fun h x hx j hj => ?_⟩
  · have hm : (x.name != "_", x.type, x.offset) ∈ [(true, 4, 0), (true, 25, 1)] := timerFields ▸ List.mem_map.2 ⟨x, hx, rfl⟩
    simp only [List.mem_cons, Prod.mk.injEq, List.not_mem_nil, or_false] at hm
    rcases hm with ⟨e1, e2, e3⟩ | ⟨e1, e2, e3⟩
    · exact ⟨by simpa using e1, by rw [e2, e3]; exact part_bool w (by kernel_rfl) Tryz.underlying4 (by omega) h0 g0⟩
    · exact ⟨by simpa using e1, by rw [e2, e3]; exact part_int w (by kernel_rfl) Tryz.underlying25 (by omega) h1 g1⟩
  · have key : ∀ o, o < 2 → ∃ x ∈ (Tryz.prog.fieldsOf 27).toList, x.offset = o := by
      intro o ho
      have hm : ∃ p ∈ (Tryz.prog.fieldsOf 27).toList.map (fun f => (f.name != "_", f.type, f.offset)), p.2.2 = o := by
        rw [timerFields]
        have : o = 0 ∨ o = 1 := by omega
        rcases this with rfl | rfl <;> simp
      obtain ⟨p, hp, ho⟩ := hm
      obtain ⟨x, hx, rfl⟩ := List.mem_map.1 hp
      exact ⟨x, hx, ho⟩
    obtain ⟨x, hx, rfl⟩ := key j hj
    exact h x hx 0 (by omega)
  · have hm : (x.name != "_", x.type, x.offset) ∈ [(true, 4, 0), (true, 25, 1)] := timerFields ▸ List.mem_map.2 ⟨x, hx, rfl⟩
    simp only [List.mem_cons, Prod.mk.injEq, List.not_mem_nil, or_false] at hm
    exact h _ (by omega)

theorem eq_counter (d : Nat) (f g : Nat → Value) (w : World) {a a' b b' : Bool} {c c' : Int} (h0 : f 0 = .bool a) (h1 : f 1 = .bool b) (h2 : f 2 = .int .u16 c) (g0 : g 0 = .bool a') (g1 : g 1 = .bool b') (g2 : g 2 = .int .u16 c') : EqRow Tryz.prog (d + 2) 30 3 f g w := by
  refine row_struct (P := Tryz.prog) w (d := d + 1) (fun x => ∀ j, j < 1 → f (x.offset + j) = g (x.offset + j)) (by kernel_rfl) (by kernel_rfl) (fun x hx => ?_) ⟨fun h j hj => ?_, fun h x hx j hj => ?_⟩
  · have hm : (x.name != "_", x.type, x.offset) ∈ [(true, 4, 0), (true, 4, 1), (true, 25, 2)] := counterFields ▸ List.mem_map.2 ⟨x, hx, rfl⟩
    simp only [List.mem_cons, Prod.mk.injEq, List.not_mem_nil, or_false] at hm
    rcases hm with ⟨e1, e2, e3⟩ | ⟨e1, e2, e3⟩ | ⟨e1, e2, e3⟩
    · exact ⟨by simpa using e1, by rw [e2, e3]; exact part_bool w (by kernel_rfl) Tryz.underlying4 (by omega) h0 g0⟩
    · exact ⟨by simpa using e1, by rw [e2, e3]; exact part_bool w (by kernel_rfl) Tryz.underlying4 (by omega) h1 g1⟩
    · exact ⟨by simpa using e1, by rw [e2, e3]; exact part_int w (by kernel_rfl) Tryz.underlying25 (by omega) h2 g2⟩
  · have key : ∀ o, o < 3 → ∃ x ∈ (Tryz.prog.fieldsOf 30).toList, x.offset = o := by
      intro o ho
      have hm : ∃ p ∈ (Tryz.prog.fieldsOf 30).toList.map (fun f => (f.name != "_", f.type, f.offset)), p.2.2 = o := by
        rw [counterFields]
        have : o = 0 ∨ o = 1 ∨ o = 2 := by omega
        rcases this with rfl | rfl | rfl <;> simp
      obtain ⟨p, hp, ho⟩ := hm
      obtain ⟨x, hx, rfl⟩ := List.mem_map.1 hp
      exact ⟨x, hx, ho⟩
    obtain ⟨x, hx, rfl⟩ := key j hj
    exact h x hx 0 (by omega)
  · have hm : (x.name != "_", x.type, x.offset) ∈ [(true, 4, 0), (true, 4, 1), (true, 25, 2)] := counterFields ▸ List.mem_map.2 ⟨x, hx, rfl⟩
    simp only [List.mem_cons, Prod.mk.injEq, List.not_mem_nil, or_false] at hm
    exact h _ (by omega)

theorem eq_timers (d : Nat) (a b : MemV) (w : World) : EqRow Tryz.prog (d + 3) 28 32 (fun j => a.cell (5 + j)) (fun j => b.cell (5 + j)) w := by
  refine row_array (P := Tryz.prog) w (d := d + 2) (len := 16) (m := 2) (e := 27) (by omega) Tryz.underlying28 (i := (Tryz.prog.info? 27).getD default) (by kernel_rfl) (by kernel_rfl) (fun i hi => ?_)
  refine part_row (P := Tryz.prog) w (by kernel_rfl) (by kernel_rfl) (by omega) ?_
  refine eq_timer d _ _ w (a := a.tD i) (c := a.tC i) (a' := b.tD i) (c' := b.tC i) ?_ ?_ ?_ ?_
  · rw [show 5 + (i * 2 + 0) = 5 + i * 2 by omega]; exact a.cell_tD i hi
  · rw [show 5 + (i * 2 + 1) = 5 + i * 2 + 1 by omega]; exact a.cell_tC i hi
  · rw [show 5 + (i * 2 + 0) = 5 + i * 2 by omega]; exact b.cell_tD i hi
  · rw [show 5 + (i * 2 + 1) = 5 + i * 2 + 1 by omega]; exact b.cell_tC i hi
theorem eq_counters (d : Nat) (a b : MemV) (w : World) : EqRow Tryz.prog (d + 3) 31 48 (fun j => a.cell (37 + j)) (fun j => b.cell (37 + j)) w := by
  refine row_array (P := Tryz.prog) w (d := d + 2) (len := 16) (m := 3) (e := 30) (by omega) Tryz.underlying31 (i := (Tryz.prog.info? 30).getD default) (by kernel_rfl) (by kernel_rfl) (fun i hi => ?_)
  refine part_row (P := Tryz.prog) w (by kernel_rfl) (by kernel_rfl) (by omega) ?_
  refine eq_counter d _ _ w (a := a.cD i) (b := a.cL i) (c := a.cC i) (a' := b.cD i) (b' := b.cL i) (c' := b.cC i) ?_ ?_ ?_ ?_ ?_ ?_
  · rw [show 37 + (i * 3 + 0) = 37 + i * 3 by omega]; exact a.cell_cD i hi
  · rw [show 37 + (i * 3 + 1) = 37 + i * 3 + 1 by omega]; exact a.cell_cL i hi
  · rw [show 37 + (i * 3 + 2) = 37 + i * 3 + 2 by omega]; exact a.cell_cC i hi
  · rw [show 37 + (i * 3 + 0) = 37 + i * 3 by omega]; exact b.cell_cD i hi
  · rw [show 37 + (i * 3 + 1) = 37 + i * 3 + 1 by omega]; exact b.cell_cL i hi
  · rw [show 37 + (i * 3 + 2) = 37 + i * 3 + 2 by omega]; exact b.cell_cC i hi
theorem eq_ints (d : Nat) (a b : MemV) (w : World) : EqRow Tryz.prog (d + 3) 33 32 (fun j => a.cell (85 + j)) (fun j => b.cell (85 + j)) w := by
  refine row_array (P := Tryz.prog) w (d := d + 2) (len := 32) (m := 1) (e := 32) (by omega) Tryz.underlying33 (i := (Tryz.prog.info? 32).getD default) (by kernel_rfl) (by kernel_rfl) (fun i hi => ?_)
  refine part_int (P := Tryz.prog) w (d := d + 1) (k := .i16) (a := a.d i) (c := b.d i) (by kernel_rfl) Tryz.underlying32 (by omega) ?_ ?_
  · rw [Nat.mul_one]; exact a.cell_d i hi
  · rw [Nat.mul_one]; exact b.cell_d i hi
theorem eq_reals (d : Nat) (a b : MemV) (w : World) (ha : ∀ i, a.r i = 0) (hb : ∀ i, b.r i = 0) : EqRow Tryz.prog (d + 3) 35 16 (fun j => a.cell (117 + j)) (fun j => b.cell (117 + j)) w := by
  refine row_array (P := Tryz.prog) w (d := d + 2) (len := 16) (m := 1) (e := 34) (by omega) Tryz.underlying35 (i := (Tryz.prog.info? 34).getD default) (by kernel_rfl) (by kernel_rfl) (fun i hi => ?_)
  refine part_zero (P := Tryz.prog) w (d := d + 1) (by kernel_rfl) Tryz.underlying34 (by omega) ?_ ?_
  · rw [Nat.mul_one, a.cell_r i hi, ha]
  · rw [Nat.mul_one, b.cell_r i hi, hb]

theorem eql_mem (a b : MemV) (w : World) (ha : ∀ i, a.r i = 0) (hb : ∀ i, b.r i = 0) :
    ∃ q : Bool, (Op.equalIn 10000 37 (.agg a.row) (.agg b.row)).run Tryz.prog w = .ok q w ∧ (q = true ↔ ∀ j, j < 136 → a.cell j = b.cell j) := by
  show EqRow Tryz.prog (9999 + 1) 37 136 a.cell b.cell w
  refine row_struct (P := Tryz.prog) w (d := 9999) (fun x => ∀ j, j < fieldN x.offset → a.cell (x.offset + j) = b.cell (x.offset + j)) (by kernel_rfl) (by kernel_rfl) (fun x hx => ?_) ⟨fun h j hj => ?_, fun h x hx j hj => ?_⟩
  · have hm := memFields ▸ List.mem_map.2 ⟨x, hx, rfl⟩
    simp only [List.mem_cons, Prod.mk.injEq, List.not_mem_nil, or_false] at hm
    have pi : ∀ {t : TypeId} {off : Nat} {k : IntKind} {y z : Int}, (isAgg t).run Tryz.prog w = .ok false w → Tryz.prog.underlying t = some (.int k) → off < 136 → a.cell off = .int k y → b.cell off = .int k z → EqPart Tryz.prog 9999 (rowOf a.cell 136) (rowOf b.cell 136) t off w (∀ j, j < 1 → a.cell (off + j) = b.cell (off + j)) :=
      fun h1 h2 h3 h4 h5 => part_int (P := Tryz.prog) w (d := 9998) h1 h2 h3 h4 h5
    have pb : ∀ {t : TypeId} {off : Nat} {y z : Bool}, (isAgg t).run Tryz.prog w = .ok false w → Tryz.prog.underlying t = some .bool → off < 136 → a.cell off = .bool y → b.cell off = .bool z → EqPart Tryz.prog 9999 (rowOf a.cell 136) (rowOf b.cell 136) t off w (∀ j, j < 1 → a.cell (off + j) = b.cell (off + j)) :=
      fun h1 h2 h3 h4 h5 => part_bool (P := Tryz.prog) w (d := 9998) h1 h2 h3 h4 h5
    rcases hm with ⟨e1, e2, e3⟩ | ⟨e1, e2, e3⟩ | ⟨e1, e2, e3⟩ | ⟨e1, e2, e3⟩ | ⟨e1, e2, e3⟩ | ⟨e1, e2, e3⟩ | ⟨e1, e2, e3⟩ | ⟨e1, e2, e3⟩ | ⟨e1, e2, e3⟩ | ⟨e1, e2, e3⟩ | ⟨e1, e2, e3⟩ | ⟨e1, e2, e3⟩
    all_goals (refine ⟨by simpa using e1, ?_⟩; rw [e2, e3])
    · exact pi (by kernel_rfl) Tryz.underlying23 (by omega) a.cell_x b.cell_x
    · exact pi (by kernel_rfl) Tryz.underlying23 (by omega) a.cell_y b.cell_y
    · exact pi (by kernel_rfl) Tryz.underlying24 (by omega) a.cell_m b.cell_m
    · exact pi (by kernel_rfl) Tryz.underlying25 (by omega) a.cell_s b.cell_s
    · exact pi (by kernel_rfl) Tryz.underlying23 (by omega) a.cell_e b.cell_e
    · exact part_row (P := Tryz.prog) w (m := 32) (by kernel_rfl) (by kernel_rfl) (by omega) (eq_timers 9996 a b w)
    · exact part_row (P := Tryz.prog) w (m := 48) (by kernel_rfl) (by kernel_rfl) (by omega) (eq_counters 9996 a b w)
    · exact part_row (P := Tryz.prog) w (m := 32) (by kernel_rfl) (by kernel_rfl) (by omega) (eq_ints 9996 a b w)
    · exact part_row (P := Tryz.prog) w (m := 16) (by kernel_rfl) (by kernel_rfl) (by omega) (eq_reals 9996 a b w ha hb)
    · exact pi (by kernel_rfl) Tryz.underlying23 (by omega) a.cell_time b.cell_time
    · exact pb (by kernel_rfl) Tryz.underlying4 (by omega) a.cell_ran b.cell_ran
    · exact pb (by kernel_rfl) Tryz.underlying4 (by omega) a.cell_fault b.cell_fault
  · have key : ∀ o, o = 0 ∨ o = 1 ∨ o = 2 ∨ o = 3 ∨ o = 4 ∨ o = 5 ∨ o = 37 ∨ o = 85 ∨ o = 117 ∨ o = 133 ∨ o = 134 ∨ o = 135 → ∃ x ∈ (Tryz.prog.fieldsOf 37).toList, x.offset = o := by
      intro o ho
      have hm : ∃ p ∈ (Tryz.prog.fieldsOf 37).toList.map (fun f => (f.name != "_", f.type, f.offset)), p.2.2 = o := by
        rw [memFields]
        rcases ho with rfl | rfl | rfl | rfl | rfl | rfl | rfl | rfl | rfl | rfl | rfl | rfl <;> simp
      obtain ⟨p, hp, ho⟩ := hm
      obtain ⟨x, hx, rfl⟩ := List.mem_map.1 hp
      exact ⟨x, hx, ho⟩
    have use : ∀ o n, (o = 0 ∨ o = 1 ∨ o = 2 ∨ o = 3 ∨ o = 4 ∨ o = 5 ∨ o = 37 ∨ o = 85 ∨ o = 117 ∨ o = 133 ∨ o = 134 ∨ o = 135) → fieldN o = n → ∀ i, i < n → a.cell (o + i) = b.cell (o + i) := by
      intro o n ho hn i hi
      obtain ⟨x, hx, rfl⟩ := key o ho
      exact h x hx i (by omega)
    by_cases h5 : j < 5
    · exact use j 1 (by omega) (by unfold fieldN; rw [if_neg (by omega), if_neg (by omega), if_neg (by omega), if_neg (by omega)]) 0 (by omega)
    by_cases h37 : j < 37
    · have := use 5 32 (by omega) rfl (j - 5) (by omega)
      rwa [show 5 + (j - 5) = j by omega] at this
    by_cases h85 : j < 85
    · have := use 37 48 (by omega) rfl (j - 37) (by omega)
      rwa [show 37 + (j - 37) = j by omega] at this
    by_cases h117 : j < 117
    · have := use 85 32 (by omega) rfl (j - 85) (by omega)
      rwa [show 85 + (j - 85) = j by omega] at this
    by_cases h133 : j < 133
    · have := use 117 16 (by omega) rfl (j - 117) (by omega)
      rwa [show 117 + (j - 117) = j by omega] at this
    · exact use j 1 (by omega) (by unfold fieldN; rw [if_neg (by omega), if_neg (by omega), if_neg (by omega), if_neg (by omega)]) 0 (by omega)
  · have hm := memFields ▸ List.mem_map.2 ⟨x, hx, rfl⟩
    simp only [List.mem_cons, Prod.mk.injEq, List.not_mem_nil, or_false] at hm
    refine h _ ?_
    unfold fieldN at hj
    rcases hm with ⟨-, -, e⟩ | ⟨-, -, e⟩ | ⟨-, -, e⟩ | ⟨-, -, e⟩ | ⟨-, -, e⟩ | ⟨-, -, e⟩ | ⟨-, -, e⟩ | ⟨-, -, e⟩ | ⟨-, -, e⟩ | ⟨-, -, e⟩ | ⟨-, -, e⟩ | ⟨-, -, e⟩ <;> rw [e] at hj ⊢ <;> simp at hj <;> omega

end Go.Proofs.YtdhoimjkgicneaaGreatDoor

/- The specification's MemSame: it answers whether two memories are the same. -/
namespace Go.Proofs.YtdhoimjkgicneaaGreatDoor
open Go Go.RowKit

theorem txt_iff {x y : Nat} {l l' : List UInt8} (h : Txt x l) (g : Txt y l') : l = l' ↔ Same x y :=
  ⟨fun e => txt_same h (e ▸ g), fun s => txt_fun (txt_of_same s h) g⟩

set_option maxHeartbeats 1000000 in
theorem spec_same3 {x y : Nat} {q : Bool} (hq : q = true ↔ Same x y) (w : World) :
    Calls Tryz.prog 19 #[.float .f64 x, .float .f64 y] w fun e w' => e = .returned (.bool q) ∧ Below w.heap.size w w' := by
  have HQ : Hid (q = true ↔ Same x y) := hq
  clear hq
  go_enter Tryz.func19, Tryz.ntmps19
  go_wp2_with fail
  refine (specX_rtext x w).mono ?_
  rintro e w1 ⟨l1, rfl, t1, -, b1⟩
  have H1 : Hid (Txt x l1 ∧ Below w.heap.size w w1) := ⟨t1, b1⟩
  clear t1 b1
  go_wp2_with fail
  refine (specX_rtext y w1).mono ?_
  rintro e w2 ⟨l2, rfl, t2, -, b2⟩
  have H2 : Hid (Txt y l2 ∧ Below w1.heap.size w1 w2) := ⟨t2, b2⟩
  clear t2 b2
  go_wp2_with fail
  go_ret
  refine ⟨ret_bool ?_, H1.out.2.trans (H2.out.2.mono H1.out.2.size)⟩
  rw [Bool.eq_iff_iff, HQ.out, ← txt_iff H1.out.1 H2.out.1]
  simp

theorem two_timer (a a' : Bool) (c c' : Nat) : ∃ q : Bool, (∀ w, (binOp .neq 27 (.agg #[.bool a, .int .u16 c]) (.agg #[.bool a', .int .u16 c'])).run Tryz.prog w = .ok (.bool (!q)) w) ∧ (q = true ↔ a = a' ∧ c = c') := by
  refine ⟨decide (a = a' ∧ c = c'), fun w => ?_, by simp⟩
  obtain ⟨b, h1, h2⟩ := eq_timer 9998 (fun j => if j = 0 then .bool a else .int .u16 c) (fun j => if j = 0 then .bool a' else .int .u16 c') w rfl rfl rfl rfl
  have e : b = decide (a = a' ∧ c = c') := by
    rw [Bool.eq_iff_iff, h2]
    constructor
    · intro h
      have g0 := h 0 (by omega)
      have g1 := h 1 (by omega)
      simp at g0 g1
      exact decide_eq_true ⟨g0, by omega⟩
    · intro h j _
      simp at h
      simp [h.1, h.2]
  rw [← e]
  have h1' : (Op.equalIn 10000 27 (.agg #[.bool a, .int .u16 c]) (.agg #[.bool a', .int .u16 c'])).run Tryz.prog w = .ok b w := h1
  rw [run_neq_struct, h1']
  rfl

theorem two_counter (a a' l l' : Bool) (c c' : Nat) : ∃ q : Bool, (∀ w, (binOp .neq 30 (.agg #[.bool a, .bool l, .int .u16 c]) (.agg #[.bool a', .bool l', .int .u16 c'])).run Tryz.prog w = .ok (.bool (!q)) w) ∧ (q = true ↔ a = a' ∧ l = l' ∧ c = c') := by
  refine ⟨decide (a = a' ∧ l = l' ∧ c = c'), fun w => ?_, by simp⟩
  obtain ⟨b, h1, h2⟩ := eq_counter 9998 (fun j => if j = 0 then .bool a else if j = 1 then .bool l else .int .u16 c) (fun j => if j = 0 then .bool a' else if j = 1 then .bool l' else .int .u16 c') w rfl rfl rfl rfl rfl rfl
  have e : b = decide (a = a' ∧ l = l' ∧ c = c') := by
    rw [Bool.eq_iff_iff, h2]
    constructor
    · intro h
      have g0 := h 0 (by omega)
      have g1 := h 1 (by omega)
      have g2 := h 2 (by omega)
      simp at g0 g1 g2
      exact decide_eq_true ⟨g0, g1, by omega⟩
    · intro h j _
      simp at h
      simp [h.1, h.2.1, h.2.2]
  rw [← e]
  have h1' : (Op.equalIn 10000 30 (.agg #[.bool a, .bool l, .int .u16 c]) (.agg #[.bool a', .bool l', .int .u16 c'])).run Tryz.prog w = .ok b w := h1
  rw [run_neq_struct, h1']
  rfl

/-- The walk of a region that draws its order, shut: what unfolds by itself stands still. -/
structure WQ (P : Program) (ops : Array Oper) (C : World → Prop) (Q : Act → Prop) (l : List Oper) (a : Act) : Prop where
  out : wpQuiet P ops C Q l a

theorem wq_region {P : Program} {id : Nat} {Q : Exit → Act → World → Prop} {a : Act} {w : World} {l : List Oper} (hm : P.follows .mixedOrders = true) (hB : Region.lexB .any l.toArray = true)
    (h : WQ P l.toArray (Below w.heap.size w) (fun a' => ∀ w', Below w.heap.size w w' → Q .normal a' w') l a) : (Code.region id l.toArray true).wp P Q a w := wp_region_belowM hm hB h.out
theorem wq_nil {P : Program} {ops : Array Oper} {C : World → Prop} {Q : Act → Prop} {a : Act} (h : Q a) : WQ P ops C Q [] a := ⟨wpQuiet_nil h⟩
theorem wq_step {P : Program} {ops : Array Oper} {C : World → Prop} {Q : Act → Prop} {rest : List Oper} {o : Oper} {a : Act}
    (h : ∀ K : Act → Prop, (∀ a', WQ P ops C Q rest a' → K a') → if Region.wanted o (yielded ops a.tmps) then o.quiet P a C K else K (a.put o.dst undef)) : WQ P ops C Q (o :: rest) a := ⟨wpQuiet_step fun K hK => h K fun a' g => hK a' g.out⟩
theorem wq_bin {ops : Array Oper} {C : World → Prop} {Q : Act → Prop} {rest : List Oper} {o : Oper} {a : Act} {op : BinOp} {t t2 : TypeId} {x y : Operand} {u1 u2 v : Value} (ho : o.op = .binOp op t x y t2) (hx : a.eval x = u1) (hy : a.eval y = u2)
    (hg : Region.wanted o (yielded ops a.tmps) = true) (h1 : ∀ w, (eqGuard op t x y u1 u2).run Tryz.prog w = .ok () w) (h2 : ∀ w, (binOp op t u1 u2).run Tryz.prog w = .ok v w) (hK : WQ Tryz.prog ops C Q rest (a.put o.dst v)) : WQ Tryz.prog ops C Q (o :: rest) a :=
  ⟨quiet_bin ho hx hy hg h1 h2 hK.out⟩

/-- The devices that stand sixteen times are the same, up to a place. -/
def Upto (a b : MemV) (k : Nat) : Prop := ∀ i, i < k → Same (a.r i) (b.r i) ∧ (a.tD i = b.tD i ∧ a.tC i = b.tC i) ∧ a.cD i = b.cD i ∧ a.cL i = b.cL i ∧ a.cC i = b.cC i
theorem Upto.next {a b : MemV} {k : Nat} (h : Upto a b k) (g : Same (a.r k) (b.r k) ∧ (a.tD k = b.tD k ∧ a.tC k = b.tC k) ∧ a.cD k = b.cD k ∧ a.cL k = b.cL k ∧ a.cC k = b.cC k) : Upto a b (k + 1) := by
  intro i hi
  by_cases e : i = k
  · subst e; exact g
  · exact h i (by omega)
theorem not_same {a b : MemV} {k : Nat} (hk : k < 16) (h : ¬ (Same (a.r k) (b.r k) ∧ (a.tD k = b.tD k ∧ a.tC k = b.tC k) ∧ a.cD k = b.cD k ∧ a.cL k = b.cL k ∧ a.cC k = b.cC k)) : ¬ SameM a b := fun s =>
  h ⟨s.r k hk, ⟨s.tD k hk, s.tC k hk⟩, s.cD k hk, s.cL k hk, s.cC k hk⟩

theorem cells_at {v : MemV} {q : Nat} {w : World} (k : Nat) (hk : k < 16) (h : MemAt q v w) :
    w.cell? ⟨q, 117 + k, none⟩ = some (.float .f64 (v.r k)) ∧ w.cell? ⟨q, 5 + k * 2, none⟩ = some (.bool (v.tD k)) ∧ w.cell? ⟨q, 5 + k * 2 + 1, none⟩ = some (.int .u16 (v.tC k)) ∧
    w.cell? ⟨q, 37 + k * 3, none⟩ = some (.bool (v.cD k)) ∧ w.cell? ⟨q, 37 + k * 3 + 1, none⟩ = some (.bool (v.cL k)) ∧ w.cell? ⟨q, 37 + k * 3 + 2, none⟩ = some (.int .u16 (v.cC k)) :=
  ⟨by rw [h.c _ (by omega), v.cell_r k hk], by rw [h.c _ (by omega), v.cell_tD k hk], by rw [h.c _ (by omega), v.cell_tC k hk], by rw [h.c _ (by omega), v.cell_cD k hk], by rw [h.c _ (by omega), v.cell_cL k hk], by rw [h.c _ (by omega), v.cell_cC k hk]⟩

theorem int_at {v : MemV} {q : Nat} {w : World} (k : Nat) (hk : k < 32) (h : MemAt q v w) : w.cell? ⟨q, 85 + k, none⟩ = some (.int .i16 (v.d k)) := by rw [h.c _ (by omega), v.cell_d k hk]
theorem ends_at {v : MemV} {q : Nat} {w : World} (h : MemAt q v w) :
    w.cell? ⟨q, 0, none⟩ = some (.int .u32 v.x) ∧ w.cell? ⟨q, 1, none⟩ = some (.int .u32 v.y) ∧ w.cell? ⟨q, 2, none⟩ = some (.int .u64 v.m) ∧ w.cell? ⟨q, 3, none⟩ = some (.int .u16 v.s) ∧ w.cell? ⟨q, 4, none⟩ = some (.int .u32 v.e) ∧
    w.cell? ⟨q, 133, none⟩ = some (.int .u32 v.time) ∧ w.cell? ⟨q, 134, none⟩ = some (.bool v.ran) ∧ w.cell? ⟨q, 135, none⟩ = some (.bool v.fault) :=
  ⟨h.c 0 (by omega), h.c 1 (by omega), h.c 2 (by omega), h.c 3 (by omega), h.c 4 (by omega), h.c 133 (by omega), h.c 134 (by omega), h.c 135 (by omega)⟩

set_option maxRecDepth 100000 in
set_option maxHeartbeats 2000000 in
theorem spec_same (a b : MemV) (w : World) : Calls Tryz.prog 7 #[.agg a.row, .agg b.row] w (SameOf a b w) := by
  obtain ⟨A, B, BW⟩ := two_mems a b w 37 37
  go_enter Tryz.func7, Tryz.ntmps7
  go_wp2_with fail
  generalize ((w.alloc (.cells a.row 37)).alloc (.cells b.row 37)) = w0 at A B BW ⊢
  go_loopw [5] (fun i wr => ∃ k : Nat, k ≤ 16 ∧ i = .int .i64 k ∧ MemAt w.heap.size a wr ∧ MemAt (w.heap.size + 1) b wr ∧ Below w.heap.size w wr ∧ Upto a b k) (fun i _ => 16 - (intOf i).toNat)
  case atStart => exact ⟨0, by omega, rfl, A, B, BW, fun i hi => by omega⟩
  case round =>
    clear A B BW
    obtain ⟨k, hk, rfl, A, B, BW, U⟩ := hrel
    have HU : Hid (Upto a b k) := U
    clear U
    by_cases hlt : k < 16
    · obtain ⟨q1, h1⟩ : ∃ q : Bool, q = true ↔ Same (a.r k) (b.r k) := by
        by_cases h : Same (a.r k) (b.r k)
        · exact ⟨true, by simp [h]⟩
        · exact ⟨false, by simp [h]⟩
      obtain ⟨q2, Q2, h2⟩ := two_timer (a.tD k) (b.tD k) (a.tC k) (b.tC k)
      obtain ⟨q3, Q3, h3⟩ := two_counter (a.cD k) (b.cD k) (a.cL k) (b.cL k) (a.cC k) (b.cC k)
      have S1 := fun w' => spec_same3 h1 w'
      have LA := fun w' (hw' : Below wr.heap.size wr w') => cells_at k hlt (A.below hw' A.z)
      have LB := fun w' (hw' : Below wr.heap.size wr w') => cells_at k hlt (B.below hw' B.z)
      have H1 : Hid (q1 = true ↔ Same (a.r k) (b.r k)) := h1
      have H2 : Hid (q2 = true ↔ _) := h2
      have H3 : Hid (q3 = true ↔ _) := h3
      clear h1 h2 h3
      cases q1 with
      | false =>
        go_wp2_with fail
        refine wq_region (by kernel_rfl) (by kernel_rfl) ?_
        refine wq_step (fun K hK => ?_)
        go_simp
        first | (refine ⟨_, fun _ _ => rfl, hK _ ?_⟩; clear hK K) | (refine hK _ ?_; clear hK K)
        refine wq_step (fun K hK => ?_)
        go_simp
        first | (refine ⟨_, fun _ _ => rfl, hK _ ?_⟩; clear hK K) | (refine hK _ ?_; clear hK K)
        refine wq_step (fun K hK => ?_)
        go_simp
        first | (refine ⟨_, fun _ _ => rfl, hK _ ?_⟩; clear hK K) | (refine hK _ ?_; clear hK K)
        refine wq_step (fun K hK => ?_)
        go_simp
        refine ⟨.float .f64 (a.r k), fun w' hw' => ?_, hK _ ?_⟩
        · obtain ⟨cr, ct0, ct1, cc0, cc1, cc2⟩ := LA w' hw'
          simp [cr]
        clear hK K
        refine wq_step (fun K hK => ?_)
        go_simp
        first | (refine ⟨_, fun _ _ => rfl, hK _ ?_⟩; clear hK K) | (refine hK _ ?_; clear hK K)
        refine wq_step (fun K hK => ?_)
        go_simp
        first | (refine ⟨_, fun _ _ => rfl, hK _ ?_⟩; clear hK K) | (refine hK _ ?_; clear hK K)
        refine wq_step (fun K hK => ?_)
        go_simp
        first | (refine ⟨_, fun _ _ => rfl, hK _ ?_⟩; clear hK K) | (refine hK _ ?_; clear hK K)
        refine wq_step (fun K hK => ?_)
        go_simp
        refine ⟨.float .f64 (b.r k), fun w' hw' => ?_, hK _ ?_⟩
        · obtain ⟨cr, ct0, ct1, cc0, cc1, cc2⟩ := LB w' hw'
          simp [cr]
        clear hK K
        refine wq_step (fun K hK => ?_)
        go_simp
        refine ⟨.bool false, fun w' hw' => (S1 w').mono fun e w'' ⟨he, hb⟩ => ⟨he, hw'.trans (hb.mono hw'.size)⟩, hK _ ?_⟩
        clear hK K
        refine wq_step (fun K hK => ?_)
        go_simp
        first | (refine ⟨_, fun _ _ => rfl, hK _ ?_⟩; clear hK K) | (refine hK _ ?_; clear hK K)
        refine wq_step (fun K hK => ?_)
        go_simp
        first | (refine ⟨_, fun _ _ => rfl, hK _ ?_⟩; clear hK K) | (refine hK _ ?_; clear hK K)
        refine wq_step (fun K hK => ?_)
        go_simp
        first | (refine ⟨_, fun _ _ => rfl, hK _ ?_⟩; clear hK K) | (refine hK _ ?_; clear hK K)
        refine wq_step (fun K hK => ?_)
        go_simp
        first | (refine ⟨_, fun _ _ => rfl, hK _ ?_⟩; clear hK K) | (refine hK _ ?_; clear hK K)
        refine wq_step (fun K hK => ?_)
        go_simp
        first | (refine ⟨_, fun _ _ => rfl, hK _ ?_⟩; clear hK K) | (refine hK _ ?_; clear hK K)
        refine wq_step (fun K hK => ?_)
        go_simp
        first | (refine ⟨_, fun _ _ => rfl, hK _ ?_⟩; clear hK K) | (refine hK _ ?_; clear hK K)
        refine wq_step (fun K hK => ?_)
        go_simp
        first | (refine ⟨_, fun _ _ => rfl, hK _ ?_⟩; clear hK K) | (refine hK _ ?_; clear hK K)
        refine wq_step (fun K hK => ?_)
        go_simp
        first | (refine ⟨_, fun _ _ => rfl, hK _ ?_⟩; clear hK K) | (refine hK _ ?_; clear hK K)
        refine wq_step (fun K hK => ?_)
        go_simp
        first | (refine ⟨_, fun _ _ => rfl, hK _ ?_⟩; clear hK K) | (refine hK _ ?_; clear hK K)
        refine wq_step (fun K hK => ?_)
        go_simp
        first | (refine ⟨_, fun _ _ => rfl, hK _ ?_⟩; clear hK K) | (refine hK _ ?_; clear hK K)
        refine wq_step (fun K hK => ?_)
        go_simp
        first | (refine ⟨_, fun _ _ => rfl, hK _ ?_⟩; clear hK K) | (refine hK _ ?_; clear hK K)
        refine wq_step (fun K hK => ?_)
        go_simp
        first | (refine ⟨_, fun _ _ => rfl, hK _ ?_⟩; clear hK K) | (refine hK _ ?_; clear hK K)
        refine wq_step (fun K hK => ?_)
        go_simp
        first | (refine ⟨_, fun _ _ => rfl, hK _ ?_⟩; clear hK K) | (refine hK _ ?_; clear hK K)
        refine wq_step (fun K hK => ?_)
        go_simp
        first | (refine ⟨_, fun _ _ => rfl, hK _ ?_⟩; clear hK K) | (refine hK _ ?_; clear hK K)
        refine wq_step (fun K hK => ?_)
        go_simp
        first | (refine ⟨_, fun _ _ => rfl, hK _ ?_⟩; clear hK K) | (refine hK _ ?_; clear hK K)
        refine wq_step (fun K hK => ?_)
        go_simp
        first | (refine ⟨_, fun _ _ => rfl, hK _ ?_⟩; clear hK K) | (refine hK _ ?_; clear hK K)
        refine wq_step (fun K hK => ?_)
        go_simp
        first | (refine ⟨_, fun _ _ => rfl, hK _ ?_⟩; clear hK K) | (refine hK _ ?_; clear hK K)
        refine wq_step (fun K hK => ?_)
        go_simp
        first | (refine ⟨_, fun _ _ => rfl, hK _ ?_⟩; clear hK K) | (refine hK _ ?_; clear hK K)
        refine wq_step (fun K hK => ?_)
        go_simp
        first | (refine ⟨_, fun _ _ => rfl, hK _ ?_⟩; clear hK K) | (refine hK _ ?_; clear hK K)
        refine wq_step (fun K hK => ?_)
        go_simp
        first | (refine ⟨_, fun _ _ => rfl, hK _ ?_⟩; clear hK K) | (refine hK _ ?_; clear hK K)
        refine wq_step (fun K hK => ?_)
        go_simp
        first | (refine ⟨_, fun _ _ => rfl, hK _ ?_⟩; clear hK K) | (refine hK _ ?_; clear hK K)
        refine wq_step (fun K hK => ?_)
        go_simp
        first | (refine ⟨_, fun _ _ => rfl, hK _ ?_⟩; clear hK K) | (refine hK _ ?_; clear hK K)
        refine wq_step (fun K hK => ?_)
        go_simp
        first | (refine ⟨_, fun _ _ => rfl, hK _ ?_⟩; clear hK K) | (refine hK _ ?_; clear hK K)
        refine wq_nil ?_
        intro w1 hw1
        have BW1 := BW.trans (hw1.mono BW.size)
        clear LA LB S1 A B BW Q2 Q3 hw1
        go_wp2_with fail
        go_ret
        exact ⟨false, rfl, ⟨fun h => by (cases h), fun h => absurd h (not_same hlt fun h => by have := H1.out.2 h.1; cases this)⟩, BW1⟩
      | true =>
        cases q2 with
        | false =>
          go_wp2_with fail
          refine wq_region (by kernel_rfl) (by kernel_rfl) ?_
          refine wq_step (fun K hK => ?_)
          go_simp
          first | (refine ⟨_, fun _ _ => rfl, hK _ ?_⟩; clear hK K) | (refine hK _ ?_; clear hK K)
          refine wq_step (fun K hK => ?_)
          go_simp
          first | (refine ⟨_, fun _ _ => rfl, hK _ ?_⟩; clear hK K) | (refine hK _ ?_; clear hK K)
          refine wq_step (fun K hK => ?_)
          go_simp
          first | (refine ⟨_, fun _ _ => rfl, hK _ ?_⟩; clear hK K) | (refine hK _ ?_; clear hK K)
          refine wq_step (fun K hK => ?_)
          go_simp
          refine ⟨.float .f64 (a.r k), fun w' hw' => ?_, hK _ ?_⟩
          · obtain ⟨cr, ct0, ct1, cc0, cc1, cc2⟩ := LA w' hw'
            simp [cr]
          clear hK K
          refine wq_step (fun K hK => ?_)
          go_simp
          first | (refine ⟨_, fun _ _ => rfl, hK _ ?_⟩; clear hK K) | (refine hK _ ?_; clear hK K)
          refine wq_step (fun K hK => ?_)
          go_simp
          first | (refine ⟨_, fun _ _ => rfl, hK _ ?_⟩; clear hK K) | (refine hK _ ?_; clear hK K)
          refine wq_step (fun K hK => ?_)
          go_simp
          first | (refine ⟨_, fun _ _ => rfl, hK _ ?_⟩; clear hK K) | (refine hK _ ?_; clear hK K)
          refine wq_step (fun K hK => ?_)
          go_simp
          refine ⟨.float .f64 (b.r k), fun w' hw' => ?_, hK _ ?_⟩
          · obtain ⟨cr, ct0, ct1, cc0, cc1, cc2⟩ := LB w' hw'
            simp [cr]
          clear hK K
          refine wq_step (fun K hK => ?_)
          go_simp
          refine ⟨.bool true, fun w' hw' => (S1 w').mono fun e w'' ⟨he, hb⟩ => ⟨he, hw'.trans (hb.mono hw'.size)⟩, hK _ ?_⟩
          clear hK K
          refine wq_step (fun K hK => ?_)
          go_simp
          first | (refine ⟨_, fun _ _ => rfl, hK _ ?_⟩; clear hK K) | (refine hK _ ?_; clear hK K)
          refine wq_step (fun K hK => ?_)
          go_simp
          first | (refine ⟨_, fun _ _ => rfl, hK _ ?_⟩; clear hK K) | (refine hK _ ?_; clear hK K)
          refine wq_step (fun K hK => ?_)
          go_simp
          first | (refine ⟨_, fun _ _ => rfl, hK _ ?_⟩; clear hK K) | (refine hK _ ?_; clear hK K)
          refine wq_step (fun K hK => ?_)
          go_simp
          first | (refine ⟨_, fun _ _ => rfl, hK _ ?_⟩; clear hK K) | (refine hK _ ?_; clear hK K)
          refine wq_step (fun K hK => ?_)
          go_simp
          first | (refine ⟨_, fun _ _ => rfl, hK _ ?_⟩; clear hK K) | (refine hK _ ?_; clear hK K)
          refine wq_step (fun K hK => ?_)
          go_simp
          refine ⟨.agg #[.bool (a.tD k), .int .u16 (a.tC k)], fun w' hw' => ?_, hK _ ?_⟩
          · obtain ⟨cr, ct0, ct1, cc0, cc1, cc2⟩ := LA w' hw'
            simp [ct0, ct1]
          clear hK K
          refine wq_step (fun K hK => ?_)
          go_simp
          first | (refine ⟨_, fun _ _ => rfl, hK _ ?_⟩; clear hK K) | (refine hK _ ?_; clear hK K)
          refine wq_step (fun K hK => ?_)
          go_simp
          first | (refine ⟨_, fun _ _ => rfl, hK _ ?_⟩; clear hK K) | (refine hK _ ?_; clear hK K)
          refine wq_step (fun K hK => ?_)
          go_simp
          first | (refine ⟨_, fun _ _ => rfl, hK _ ?_⟩; clear hK K) | (refine hK _ ?_; clear hK K)
          refine wq_step (fun K hK => ?_)
          go_simp
          refine ⟨.agg #[.bool (b.tD k), .int .u16 (b.tC k)], fun w' hw' => ?_, hK _ ?_⟩
          · obtain ⟨cr, ct0, ct1, cc0, cc1, cc2⟩ := LB w' hw'
            simp [ct0, ct1]
          clear hK K
          refine wq_bin (t := 27) rfl rfl rfl rfl (fun w => run_eqGuard_agg w _ _ _ _ _ _ (by kernel_rfl)) Q2 ?_
          go_simp
          refine wq_step (fun K hK => ?_)
          go_simp
          first | (refine ⟨_, fun _ _ => rfl, hK _ ?_⟩; clear hK K) | (refine hK _ ?_; clear hK K)
          refine wq_step (fun K hK => ?_)
          go_simp
          first | (refine ⟨_, fun _ _ => rfl, hK _ ?_⟩; clear hK K) | (refine hK _ ?_; clear hK K)
          refine wq_step (fun K hK => ?_)
          go_simp
          first | (refine ⟨_, fun _ _ => rfl, hK _ ?_⟩; clear hK K) | (refine hK _ ?_; clear hK K)
          refine wq_step (fun K hK => ?_)
          go_simp
          first | (refine ⟨_, fun _ _ => rfl, hK _ ?_⟩; clear hK K) | (refine hK _ ?_; clear hK K)
          refine wq_step (fun K hK => ?_)
          go_simp
          first | (refine ⟨_, fun _ _ => rfl, hK _ ?_⟩; clear hK K) | (refine hK _ ?_; clear hK K)
          refine wq_step (fun K hK => ?_)
          go_simp
          first | (refine ⟨_, fun _ _ => rfl, hK _ ?_⟩; clear hK K) | (refine hK _ ?_; clear hK K)
          refine wq_step (fun K hK => ?_)
          go_simp
          first | (refine ⟨_, fun _ _ => rfl, hK _ ?_⟩; clear hK K) | (refine hK _ ?_; clear hK K)
          refine wq_step (fun K hK => ?_)
          go_simp
          first | (refine ⟨_, fun _ _ => rfl, hK _ ?_⟩; clear hK K) | (refine hK _ ?_; clear hK K)
          refine wq_step (fun K hK => ?_)
          go_simp
          first | (refine ⟨_, fun _ _ => rfl, hK _ ?_⟩; clear hK K) | (refine hK _ ?_; clear hK K)
          refine wq_step (fun K hK => ?_)
          go_simp
          first | (refine ⟨_, fun _ _ => rfl, hK _ ?_⟩; clear hK K) | (refine hK _ ?_; clear hK K)
          refine wq_step (fun K hK => ?_)
          go_simp
          first | (refine ⟨_, fun _ _ => rfl, hK _ ?_⟩; clear hK K) | (refine hK _ ?_; clear hK K)
          refine wq_step (fun K hK => ?_)
          go_simp
          first | (refine ⟨_, fun _ _ => rfl, hK _ ?_⟩; clear hK K) | (refine hK _ ?_; clear hK K)
          refine wq_nil ?_
          intro w1 hw1
          have BW1 := BW.trans (hw1.mono BW.size)
          clear LA LB S1 A B BW Q2 Q3 hw1
          go_wp2_with fail
          go_ret
          exact ⟨false, rfl, ⟨fun h => by (cases h), fun h => absurd h (not_same hlt fun h => by have := H2.out.2 h.2.1; cases this)⟩, BW1⟩
        | true =>
          cases q3 with
          | false =>
            go_wp2_with fail
            refine wq_region (by kernel_rfl) (by kernel_rfl) ?_
            refine wq_step (fun K hK => ?_)
            go_simp
            first | (refine ⟨_, fun _ _ => rfl, hK _ ?_⟩; clear hK K) | (refine hK _ ?_; clear hK K)
            refine wq_step (fun K hK => ?_)
            go_simp
            first | (refine ⟨_, fun _ _ => rfl, hK _ ?_⟩; clear hK K) | (refine hK _ ?_; clear hK K)
            refine wq_step (fun K hK => ?_)
            go_simp
            first | (refine ⟨_, fun _ _ => rfl, hK _ ?_⟩; clear hK K) | (refine hK _ ?_; clear hK K)
            refine wq_step (fun K hK => ?_)
            go_simp
            refine ⟨.float .f64 (a.r k), fun w' hw' => ?_, hK _ ?_⟩
            · obtain ⟨cr, ct0, ct1, cc0, cc1, cc2⟩ := LA w' hw'
              simp [cr]
            clear hK K
            refine wq_step (fun K hK => ?_)
            go_simp
            first | (refine ⟨_, fun _ _ => rfl, hK _ ?_⟩; clear hK K) | (refine hK _ ?_; clear hK K)
            refine wq_step (fun K hK => ?_)
            go_simp
            first | (refine ⟨_, fun _ _ => rfl, hK _ ?_⟩; clear hK K) | (refine hK _ ?_; clear hK K)
            refine wq_step (fun K hK => ?_)
            go_simp
            first | (refine ⟨_, fun _ _ => rfl, hK _ ?_⟩; clear hK K) | (refine hK _ ?_; clear hK K)
            refine wq_step (fun K hK => ?_)
            go_simp
            refine ⟨.float .f64 (b.r k), fun w' hw' => ?_, hK _ ?_⟩
            · obtain ⟨cr, ct0, ct1, cc0, cc1, cc2⟩ := LB w' hw'
              simp [cr]
            clear hK K
            refine wq_step (fun K hK => ?_)
            go_simp
            refine ⟨.bool true, fun w' hw' => (S1 w').mono fun e w'' ⟨he, hb⟩ => ⟨he, hw'.trans (hb.mono hw'.size)⟩, hK _ ?_⟩
            clear hK K
            refine wq_step (fun K hK => ?_)
            go_simp
            first | (refine ⟨_, fun _ _ => rfl, hK _ ?_⟩; clear hK K) | (refine hK _ ?_; clear hK K)
            refine wq_step (fun K hK => ?_)
            go_simp
            first | (refine ⟨_, fun _ _ => rfl, hK _ ?_⟩; clear hK K) | (refine hK _ ?_; clear hK K)
            refine wq_step (fun K hK => ?_)
            go_simp
            first | (refine ⟨_, fun _ _ => rfl, hK _ ?_⟩; clear hK K) | (refine hK _ ?_; clear hK K)
            refine wq_step (fun K hK => ?_)
            go_simp
            first | (refine ⟨_, fun _ _ => rfl, hK _ ?_⟩; clear hK K) | (refine hK _ ?_; clear hK K)
            refine wq_step (fun K hK => ?_)
            go_simp
            first | (refine ⟨_, fun _ _ => rfl, hK _ ?_⟩; clear hK K) | (refine hK _ ?_; clear hK K)
            refine wq_step (fun K hK => ?_)
            go_simp
            refine ⟨.agg #[.bool (a.tD k), .int .u16 (a.tC k)], fun w' hw' => ?_, hK _ ?_⟩
            · obtain ⟨cr, ct0, ct1, cc0, cc1, cc2⟩ := LA w' hw'
              simp [ct0, ct1]
            clear hK K
            refine wq_step (fun K hK => ?_)
            go_simp
            first | (refine ⟨_, fun _ _ => rfl, hK _ ?_⟩; clear hK K) | (refine hK _ ?_; clear hK K)
            refine wq_step (fun K hK => ?_)
            go_simp
            first | (refine ⟨_, fun _ _ => rfl, hK _ ?_⟩; clear hK K) | (refine hK _ ?_; clear hK K)
            refine wq_step (fun K hK => ?_)
            go_simp
            first | (refine ⟨_, fun _ _ => rfl, hK _ ?_⟩; clear hK K) | (refine hK _ ?_; clear hK K)
            refine wq_step (fun K hK => ?_)
            go_simp
            refine ⟨.agg #[.bool (b.tD k), .int .u16 (b.tC k)], fun w' hw' => ?_, hK _ ?_⟩
            · obtain ⟨cr, ct0, ct1, cc0, cc1, cc2⟩ := LB w' hw'
              simp [ct0, ct1]
            clear hK K
            refine wq_bin (t := 27) rfl rfl rfl rfl (fun w => run_eqGuard_agg w _ _ _ _ _ _ (by kernel_rfl)) Q2 ?_
            go_simp
            refine wq_step (fun K hK => ?_)
            go_simp
            first | (refine ⟨_, fun _ _ => rfl, hK _ ?_⟩; clear hK K) | (refine hK _ ?_; clear hK K)
            refine wq_step (fun K hK => ?_)
            go_simp
            first | (refine ⟨_, fun _ _ => rfl, hK _ ?_⟩; clear hK K) | (refine hK _ ?_; clear hK K)
            refine wq_step (fun K hK => ?_)
            go_simp
            first | (refine ⟨_, fun _ _ => rfl, hK _ ?_⟩; clear hK K) | (refine hK _ ?_; clear hK K)
            refine wq_step (fun K hK => ?_)
            go_simp
            first | (refine ⟨_, fun _ _ => rfl, hK _ ?_⟩; clear hK K) | (refine hK _ ?_; clear hK K)
            refine wq_step (fun K hK => ?_)
            go_simp
            first | (refine ⟨_, fun _ _ => rfl, hK _ ?_⟩; clear hK K) | (refine hK _ ?_; clear hK K)
            refine wq_step (fun K hK => ?_)
            go_simp
            refine ⟨.agg #[.bool (a.cD k), .bool (a.cL k), .int .u16 (a.cC k)], fun w' hw' => ?_, hK _ ?_⟩
            · obtain ⟨cr, ct0, ct1, cc0, cc1, cc2⟩ := LA w' hw'
              simp [cc0, cc1, cc2]
            clear hK K
            refine wq_step (fun K hK => ?_)
            go_simp
            first | (refine ⟨_, fun _ _ => rfl, hK _ ?_⟩; clear hK K) | (refine hK _ ?_; clear hK K)
            refine wq_step (fun K hK => ?_)
            go_simp
            first | (refine ⟨_, fun _ _ => rfl, hK _ ?_⟩; clear hK K) | (refine hK _ ?_; clear hK K)
            refine wq_step (fun K hK => ?_)
            go_simp
            first | (refine ⟨_, fun _ _ => rfl, hK _ ?_⟩; clear hK K) | (refine hK _ ?_; clear hK K)
            refine wq_step (fun K hK => ?_)
            go_simp
            refine ⟨.agg #[.bool (b.cD k), .bool (b.cL k), .int .u16 (b.cC k)], fun w' hw' => ?_, hK _ ?_⟩
            · obtain ⟨cr, ct0, ct1, cc0, cc1, cc2⟩ := LB w' hw'
              simp [cc0, cc1, cc2]
            clear hK K
            refine wq_bin (t := 30) rfl rfl rfl rfl (fun w => run_eqGuard_agg w _ _ _ _ _ _ (by kernel_rfl)) Q3 ?_
            go_simp
            refine wq_step (fun K hK => ?_)
            go_simp
            first | (refine ⟨_, fun _ _ => rfl, hK _ ?_⟩; clear hK K) | (refine hK _ ?_; clear hK K)
            refine wq_nil ?_
            intro w1 hw1
            have BW1 := BW.trans (hw1.mono BW.size)
            clear LA LB S1 A B BW Q2 Q3 hw1
            go_wp2_with fail
            go_ret
            exact ⟨false, rfl, ⟨fun h => by (cases h), fun h => absurd h (not_same hlt fun h => by have := H3.out.2 h.2.2; cases this)⟩, BW1⟩
          | true =>
            go_wp2_with fail
            refine wq_region (by kernel_rfl) (by kernel_rfl) ?_
            refine wq_step (fun K hK => ?_)
            go_simp
            first | (refine ⟨_, fun _ _ => rfl, hK _ ?_⟩; clear hK K) | (refine hK _ ?_; clear hK K)
            refine wq_step (fun K hK => ?_)
            go_simp
            first | (refine ⟨_, fun _ _ => rfl, hK _ ?_⟩; clear hK K) | (refine hK _ ?_; clear hK K)
            refine wq_step (fun K hK => ?_)
            go_simp
            first | (refine ⟨_, fun _ _ => rfl, hK _ ?_⟩; clear hK K) | (refine hK _ ?_; clear hK K)
            refine wq_step (fun K hK => ?_)
            go_simp
            refine ⟨.float .f64 (a.r k), fun w' hw' => ?_, hK _ ?_⟩
            · obtain ⟨cr, ct0, ct1, cc0, cc1, cc2⟩ := LA w' hw'
              simp [cr]
            clear hK K
            refine wq_step (fun K hK => ?_)
            go_simp
            first | (refine ⟨_, fun _ _ => rfl, hK _ ?_⟩; clear hK K) | (refine hK _ ?_; clear hK K)
            refine wq_step (fun K hK => ?_)
            go_simp
            first | (refine ⟨_, fun _ _ => rfl, hK _ ?_⟩; clear hK K) | (refine hK _ ?_; clear hK K)
            refine wq_step (fun K hK => ?_)
            go_simp
            first | (refine ⟨_, fun _ _ => rfl, hK _ ?_⟩; clear hK K) | (refine hK _ ?_; clear hK K)
            refine wq_step (fun K hK => ?_)
            go_simp
            refine ⟨.float .f64 (b.r k), fun w' hw' => ?_, hK _ ?_⟩
            · obtain ⟨cr, ct0, ct1, cc0, cc1, cc2⟩ := LB w' hw'
              simp [cr]
            clear hK K
            refine wq_step (fun K hK => ?_)
            go_simp
            refine ⟨.bool true, fun w' hw' => (S1 w').mono fun e w'' ⟨he, hb⟩ => ⟨he, hw'.trans (hb.mono hw'.size)⟩, hK _ ?_⟩
            clear hK K
            refine wq_step (fun K hK => ?_)
            go_simp
            first | (refine ⟨_, fun _ _ => rfl, hK _ ?_⟩; clear hK K) | (refine hK _ ?_; clear hK K)
            refine wq_step (fun K hK => ?_)
            go_simp
            first | (refine ⟨_, fun _ _ => rfl, hK _ ?_⟩; clear hK K) | (refine hK _ ?_; clear hK K)
            refine wq_step (fun K hK => ?_)
            go_simp
            first | (refine ⟨_, fun _ _ => rfl, hK _ ?_⟩; clear hK K) | (refine hK _ ?_; clear hK K)
            refine wq_step (fun K hK => ?_)
            go_simp
            first | (refine ⟨_, fun _ _ => rfl, hK _ ?_⟩; clear hK K) | (refine hK _ ?_; clear hK K)
            refine wq_step (fun K hK => ?_)
            go_simp
            first | (refine ⟨_, fun _ _ => rfl, hK _ ?_⟩; clear hK K) | (refine hK _ ?_; clear hK K)
            refine wq_step (fun K hK => ?_)
            go_simp
            refine ⟨.agg #[.bool (a.tD k), .int .u16 (a.tC k)], fun w' hw' => ?_, hK _ ?_⟩
            · obtain ⟨cr, ct0, ct1, cc0, cc1, cc2⟩ := LA w' hw'
              simp [ct0, ct1]
            clear hK K
            refine wq_step (fun K hK => ?_)
            go_simp
            first | (refine ⟨_, fun _ _ => rfl, hK _ ?_⟩; clear hK K) | (refine hK _ ?_; clear hK K)
            refine wq_step (fun K hK => ?_)
            go_simp
            first | (refine ⟨_, fun _ _ => rfl, hK _ ?_⟩; clear hK K) | (refine hK _ ?_; clear hK K)
            refine wq_step (fun K hK => ?_)
            go_simp
            first | (refine ⟨_, fun _ _ => rfl, hK _ ?_⟩; clear hK K) | (refine hK _ ?_; clear hK K)
            refine wq_step (fun K hK => ?_)
            go_simp
            refine ⟨.agg #[.bool (b.tD k), .int .u16 (b.tC k)], fun w' hw' => ?_, hK _ ?_⟩
            · obtain ⟨cr, ct0, ct1, cc0, cc1, cc2⟩ := LB w' hw'
              simp [ct0, ct1]
            clear hK K
            refine wq_bin (t := 27) rfl rfl rfl rfl (fun w => run_eqGuard_agg w _ _ _ _ _ _ (by kernel_rfl)) Q2 ?_
            go_simp
            refine wq_step (fun K hK => ?_)
            go_simp
            first | (refine ⟨_, fun _ _ => rfl, hK _ ?_⟩; clear hK K) | (refine hK _ ?_; clear hK K)
            refine wq_step (fun K hK => ?_)
            go_simp
            first | (refine ⟨_, fun _ _ => rfl, hK _ ?_⟩; clear hK K) | (refine hK _ ?_; clear hK K)
            refine wq_step (fun K hK => ?_)
            go_simp
            first | (refine ⟨_, fun _ _ => rfl, hK _ ?_⟩; clear hK K) | (refine hK _ ?_; clear hK K)
            refine wq_step (fun K hK => ?_)
            go_simp
            first | (refine ⟨_, fun _ _ => rfl, hK _ ?_⟩; clear hK K) | (refine hK _ ?_; clear hK K)
            refine wq_step (fun K hK => ?_)
            go_simp
            first | (refine ⟨_, fun _ _ => rfl, hK _ ?_⟩; clear hK K) | (refine hK _ ?_; clear hK K)
            refine wq_step (fun K hK => ?_)
            go_simp
            refine ⟨.agg #[.bool (a.cD k), .bool (a.cL k), .int .u16 (a.cC k)], fun w' hw' => ?_, hK _ ?_⟩
            · obtain ⟨cr, ct0, ct1, cc0, cc1, cc2⟩ := LA w' hw'
              simp [cc0, cc1, cc2]
            clear hK K
            refine wq_step (fun K hK => ?_)
            go_simp
            first | (refine ⟨_, fun _ _ => rfl, hK _ ?_⟩; clear hK K) | (refine hK _ ?_; clear hK K)
            refine wq_step (fun K hK => ?_)
            go_simp
            first | (refine ⟨_, fun _ _ => rfl, hK _ ?_⟩; clear hK K) | (refine hK _ ?_; clear hK K)
            refine wq_step (fun K hK => ?_)
            go_simp
            first | (refine ⟨_, fun _ _ => rfl, hK _ ?_⟩; clear hK K) | (refine hK _ ?_; clear hK K)
            refine wq_step (fun K hK => ?_)
            go_simp
            refine ⟨.agg #[.bool (b.cD k), .bool (b.cL k), .int .u16 (b.cC k)], fun w' hw' => ?_, hK _ ?_⟩
            · obtain ⟨cr, ct0, ct1, cc0, cc1, cc2⟩ := LB w' hw'
              simp [cc0, cc1, cc2]
            clear hK K
            refine wq_bin (t := 30) rfl rfl rfl rfl (fun w => run_eqGuard_agg w _ _ _ _ _ _ (by kernel_rfl)) Q3 ?_
            go_simp
            refine wq_step (fun K hK => ?_)
            go_simp
            first | (refine ⟨_, fun _ _ => rfl, hK _ ?_⟩; clear hK K) | (refine hK _ ?_; clear hK K)
            refine wq_nil ?_
            intro w1 hw1
            have A1 := A.below hw1 A.z
            have B1 := B.below hw1 B.z
            have BW1 := BW.trans (hw1.mono BW.size)
            clear LA LB S1 A B BW Q2 Q3 hw1
            go_wp2_with fail
            go_roundw
            case rel => exact ⟨k + 1, by omega, by go_num, A1, B1, BW1, HU.out.next ⟨H1.out.1 (by trivial), H2.out.1 (by trivial), H3.out.1 (by trivial)⟩⟩
            case measure => simp [intOf]; omega
    · have e : k = 16 := by omega
      subst e
      go_wp2_with fail
      have e16 : ((16 : Nat) : Int) = 16 := rfl
      simp only [e16]
      go_loopw [6] (fun i wr => ∃ k : Nat, k ≤ 32 ∧ i = .int .i64 k ∧ MemAt w.heap.size a wr ∧ MemAt (w.heap.size + 1) b wr ∧ Below w.heap.size w wr ∧ ∀ i, i < k → a.d i = b.d i) (fun i _ => 32 - (intOf i).toNat)
      case atStart => exact ⟨0, by omega, rfl, A, B, BW, fun i hi => by omega⟩
      case round =>
        clear A B BW
        obtain ⟨k, hk, rfl, A, B, BW, V⟩ := hrel
        have HV : Hid (∀ i, i < k → a.d i = b.d i) := V
        clear V
        by_cases hlt : k < 32
        · have LA := fun w' (hw' : Below wr.heap.size wr w') => int_at k hlt (A.below hw' A.z)
          have LB := fun w' (hw' : Below wr.heap.size wr w') => int_at k hlt (B.below hw' B.z)
          by_cases hd : a.d k = b.d k
          · have HD : Hid (a.d k = b.d k) := hd
            clear hd
            go_wp2_with fail
            refine wq_region (by kernel_rfl) (by kernel_rfl) ?_
            refine wq_step (fun K hK => ?_)
            go_simp
            first | (refine ⟨_, fun _ _ => rfl, hK _ ?_⟩; clear hK K) | (refine hK _ ?_; clear hK K)
            refine wq_step (fun K hK => ?_)
            go_simp
            first | (refine ⟨_, fun _ _ => rfl, hK _ ?_⟩; clear hK K) | (refine hK _ ?_; clear hK K)
            refine wq_step (fun K hK => ?_)
            go_simp
            first | (refine ⟨_, fun _ _ => rfl, hK _ ?_⟩; clear hK K) | (refine hK _ ?_; clear hK K)
            refine wq_step (fun K hK => ?_)
            go_simp
            refine ⟨.int .i16 (a.d k), fun w' hw' => ?_, hK _ ?_⟩
            · have c := LA w' hw'
              simp [c]
            clear hK K
            refine wq_step (fun K hK => ?_)
            go_simp
            first | (refine ⟨_, fun _ _ => rfl, hK _ ?_⟩; clear hK K) | (refine hK _ ?_; clear hK K)
            refine wq_step (fun K hK => ?_)
            go_simp
            first | (refine ⟨_, fun _ _ => rfl, hK _ ?_⟩; clear hK K) | (refine hK _ ?_; clear hK K)
            refine wq_step (fun K hK => ?_)
            go_simp
            first | (refine ⟨_, fun _ _ => rfl, hK _ ?_⟩; clear hK K) | (refine hK _ ?_; clear hK K)
            refine wq_step (fun K hK => ?_)
            go_simp
            refine ⟨.int .i16 (b.d k), fun w' hw' => ?_, hK _ ?_⟩
            · have c := LB w' hw'
              simp [c]
            clear hK K
            refine wq_step (fun K hK => ?_)
            go_simp
            refine ⟨.bool false, fun _ _ => by simp [HD.out], hK _ ?_⟩
            clear hK K
            refine wq_nil ?_
            intro w1 hw1
            have A1 := A.below hw1 A.z
            have B1 := B.below hw1 B.z
            have BW1 := BW.trans (hw1.mono BW.size)
            clear LA LB A B BW hw1
            go_wp2_with fail
            go_roundw
            case rel =>
              refine ⟨k + 1, by omega, by go_num, A1, B1, BW1, fun i hi => ?_⟩
              by_cases e : i = k
              · rw [e]; exact HD.out
              · exact HV.out i (by omega)
            case measure => simp [intOf]; omega
          · have HD : Hid (¬ a.d k = b.d k) := hd
            clear hd
            go_wp2_with fail
            refine wq_region (by kernel_rfl) (by kernel_rfl) ?_
            refine wq_step (fun K hK => ?_)
            go_simp
            first | (refine ⟨_, fun _ _ => rfl, hK _ ?_⟩; clear hK K) | (refine hK _ ?_; clear hK K)
            refine wq_step (fun K hK => ?_)
            go_simp
            first | (refine ⟨_, fun _ _ => rfl, hK _ ?_⟩; clear hK K) | (refine hK _ ?_; clear hK K)
            refine wq_step (fun K hK => ?_)
            go_simp
            first | (refine ⟨_, fun _ _ => rfl, hK _ ?_⟩; clear hK K) | (refine hK _ ?_; clear hK K)
            refine wq_step (fun K hK => ?_)
            go_simp
            refine ⟨.int .i16 (a.d k), fun w' hw' => ?_, hK _ ?_⟩
            · have c := LA w' hw'
              simp [c]
            clear hK K
            refine wq_step (fun K hK => ?_)
            go_simp
            first | (refine ⟨_, fun _ _ => rfl, hK _ ?_⟩; clear hK K) | (refine hK _ ?_; clear hK K)
            refine wq_step (fun K hK => ?_)
            go_simp
            first | (refine ⟨_, fun _ _ => rfl, hK _ ?_⟩; clear hK K) | (refine hK _ ?_; clear hK K)
            refine wq_step (fun K hK => ?_)
            go_simp
            first | (refine ⟨_, fun _ _ => rfl, hK _ ?_⟩; clear hK K) | (refine hK _ ?_; clear hK K)
            refine wq_step (fun K hK => ?_)
            go_simp
            refine ⟨.int .i16 (b.d k), fun w' hw' => ?_, hK _ ?_⟩
            · have c := LB w' hw'
              simp [c]
            clear hK K
            refine wq_step (fun K hK => ?_)
            go_simp
            refine ⟨.bool true, fun _ _ => by simp [HD.out], hK _ ?_⟩
            clear hK K
            refine wq_nil ?_
            intro w1 hw1
            have BW1 := BW.trans (hw1.mono BW.size)
            clear LA LB A B BW hw1
            go_wp2_with fail
            go_ret
            exact ⟨false, rfl, ⟨fun h => by (cases h), fun h => absurd (h.d k hlt) HD.out⟩, BW1⟩
        · have e : k = 32 := by omega
          subst e
          obtain ⟨a0, a1, a2, a3, a4, a5, a6, a7⟩ := ends_at A
          obtain ⟨b0, b1, b2, b3, b4, b5, b6, b7⟩ := ends_at B
          have HB : Hid (Below w.heap.size w wr) := BW
          clear A B BW
          by_cases h0 : a.x = b.x
          · skip
            by_cases h1 : a.y = b.y
            · skip
              by_cases h2 : a.m = b.m
              · skip
                by_cases h3 : a.s = b.s
                · skip
                  by_cases h4 : a.e = b.e
                  · skip
                    by_cases h5 : a.time = b.time
                    · skip
                      by_cases h6 : a.ran = b.ran
                      · skip
                        by_cases h7 : a.fault = b.fault
                        · skip
                          go_wp2_with fail
                          go_ret
                          exact ⟨true, rfl, ⟨fun _ => ⟨h0, h1, h2, h3, h4, fun i hi => (HU.out i hi).2.1.1, fun i hi => (HU.out i hi).2.1.2, fun i hi => (HU.out i hi).2.2.1, fun i hi => (HU.out i hi).2.2.2.1, fun i hi => (HU.out i hi).2.2.2.2, HV.out, fun i hi => (HU.out i hi).1, h5, h6, h7⟩, fun _ => rfl⟩, HB.out⟩
                        · go_wp2_with fail
                          go_ret
                          exact ⟨a.fault == b.fault, rfl, ⟨fun h => absurd (by simpa using h) h7, fun h => absurd h.fault h7⟩, HB.out⟩
                      · go_wp2_with fail
                        go_ret
                        exact ⟨false, rfl, ⟨fun h => by (cases h), fun h => absurd h.ran h6⟩, HB.out⟩
                    · go_wp2_with fail
                      go_ret
                      exact ⟨false, rfl, ⟨fun h => by (cases h), fun h => absurd h.time h5⟩, HB.out⟩
                  · go_wp2_with fail
                    go_ret
                    exact ⟨false, rfl, ⟨fun h => by (cases h), fun h => absurd h.e h4⟩, HB.out⟩
                · go_wp2_with fail
                  go_ret
                  exact ⟨false, rfl, ⟨fun h => by (cases h), fun h => absurd h.s h3⟩, HB.out⟩
              · go_wp2_with fail
                go_ret
                exact ⟨false, rfl, ⟨fun h => by (cases h), fun h => absurd h.m h2⟩, HB.out⟩
            · go_wp2_with fail
              go_ret
              exact ⟨false, rfl, ⟨fun h => by (cases h), fun h => absurd h.y h1⟩, HB.out⟩
          · go_wp2_with fail
            go_ret
            exact ⟨false, rfl, ⟨fun h => by (cases h), fun h => absurd h.x h0⟩, HB.out⟩

end Go.Proofs.YtdhoimjkgicneaaGreatDoor
