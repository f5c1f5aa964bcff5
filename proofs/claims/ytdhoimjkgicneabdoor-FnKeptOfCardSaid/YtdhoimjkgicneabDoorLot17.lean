/- Texts of this proof laid together: MsC, RegB. -/
import Derived.Test.YtdhoimjkgicneabDoorLot15
import Derived.Test.YtdhoimjkgicneabDoorLot1
import Derived.Deep.QuietTactic
import Derived.BigQuiet
/- How two memories without real numbers are compared, cell by cell. -/
namespace Go.Proofs.YtdhoimjkgicneabDoor
open Go Go.RowKit

section
variable {P : Program} (w : World)

/-- Two rows of one type are compared. -/
def EqRow (P : Program) (d : Nat) (t : TypeId) (n : Nat) (f g : Nat → Value) (w : World) : Prop :=
  ∃ b : Bool, (Op.equalIn d t (.agg (rowOf f n)) (.agg (rowOf g n))).run P w = .ok b w ∧ (b = true ↔ ∀ j, j < n → f j = g j)

theorem part_row {d : Nat} {t : TypeId} {n m off : Nat} {f g : Nat → Value} (ha : (isAgg t).run P w = .ok true w) (hs : (sizeOf t).run P w = .ok m w) (hn : off + m ≤ n)
    (h : EqRow P d t m (fun j => f (off + j)) (fun j => g (off + j)) w) : EqPart P d (rowOf f n) (rowOf g n) t off w (∀ j, j < m → f (off + j) = g (off + j)) := by
  obtain ⟨b, h1, h2⟩ := h
  refine ⟨_, _, b, part_agg w ha hs, part_agg w ha hs, ?_, h2⟩
  rw [extract_row f hn, extract_row g hn]
  exact h1

theorem part_int {d : Nat} {t : TypeId} {n off : Nat} {f g : Nat → Value} {k : IntKind} {a c : Int} (ha : (isAgg t).run P w = .ok false w) (hu : P.underlying t = some (.int k)) (hn : off < n) (h1 : f off = .int k a) (h2 : g off = .int k c) :
    EqPart P (d + 1) (rowOf f n) (rowOf g n) t off w (∀ j, j < 1 → f (off + j) = g (off + j)) := by
  obtain ⟨x, y, b, g1, g2, g3, g4⟩ := eq_int (P := P) w (d := d) ha hu ((rowOf_get f hn).trans (by rw [h1])) ((rowOf_get g hn).trans (by rw [h2]))
  refine ⟨x, y, b, g1, g2, g3, ?_⟩
  rw [g4, rowOf_get f hn, rowOf_get g hn]
  constructor
  · intro e j hj
    have : j = 0 := by omega
    subst this
    exact Option.some.inj e
  · intro e
    exact congrArg some (e 0 (by omega))
theorem part_bool {d : Nat} {t : TypeId} {n off : Nat} {f g : Nat → Value} {a c : Bool} (ha : (isAgg t).run P w = .ok false w) (hu : P.underlying t = some .bool) (hn : off < n) (h1 : f off = .bool a) (h2 : g off = .bool c) :
    EqPart P (d + 1) (rowOf f n) (rowOf g n) t off w (∀ j, j < 1 → f (off + j) = g (off + j)) := by
  obtain ⟨x, y, b, g1, g2, g3, g4⟩ := eq_bool (P := P) w (d := d) ha hu ((rowOf_get f hn).trans (by rw [h1])) ((rowOf_get g hn).trans (by rw [h2]))
  refine ⟨x, y, b, g1, g2, g3, ?_⟩
  rw [g4, rowOf_get f hn, rowOf_get g hn]
  constructor
  · intro e j hj
    have : j = 0 := by omega
    subst this
    exact Option.some.inj e
  · intro e
    exact congrArg some (e 0 (by omega))
theorem part_zero {d : Nat} {t : TypeId} {n off : Nat} {f g : Nat → Value} (ha : (isAgg t).run P w = .ok false w) (hu : P.underlying t = some (.float .f64)) (hn : off < n) (h1 : f off = .float .f64 0) (h2 : g off = .float .f64 0) :
    EqPart P (d + 1) (rowOf f n) (rowOf g n) t off w (∀ j, j < 1 → f (off + j) = g (off + j)) := by
  refine ⟨_, _, true, part_one w ha ((rowOf_get f hn).trans (by rw [h1])), part_one w ha ((rowOf_get g hn).trans (by rw [h2])), ?_, ?_⟩
  · have e : Op.floatEq .f64 0 0 = true := by decide +kernel
    simp [Op.equalIn, run_underlying hu, e]
  · refine ⟨fun _ j hj => ?_, fun _ => rfl⟩
    have : j = 0 := by omega
    subst this
    rw [Nat.add_zero, h1, h2]

theorem row_array {d : Nat} {t e : TypeId} {len m : Nat} {i : TypeInfo} {f g : Nat → Value} (hm : 0 < m) (hu : P.underlying t = some (.array len e)) (hi : P.info? e = some i) (hc : P.cellsOf e = m)
    (h : ∀ i, i < len → EqPart P d (rowOf f (len * m)) (rowOf g (len * m)) e (i * m) w (∀ j, j < m → f (i * m + j) = g (i * m + j))) : EqRow P (d + 1) t (len * m) f g w := by
  obtain ⟨b, h1, h2⟩ := eqItems_iff (P := P) w d e m (rowOf f (len * m)) (rowOf g (len * m)) (fun i => ∀ j, j < m → f (i * m + j) = g (i * m + j)) (List.range len) (fun i hi => h i (by simpa using hi))
  refine ⟨b, (run_equalIn_array (P := P) w d _ _ hu hi).trans (by rw [hc]; exact h1), ?_⟩
  rw [h2]
  constructor
  · intro e k hk
    have hlt : k / m < len := (Nat.div_lt_iff_lt_mul hm).2 hk
    have := e (k / m) (by simpa using hlt) (k % m) (Nat.mod_lt _ hm)
    have ek : k / m * m + k % m = k := by rw [Nat.mul_comm]; exact Nat.div_add_mod k m
    rwa [ek] at this
  · intro e i hi j hj
    have hi : i < len := by simpa using hi
    refine e _ ?_
    have : (i + 1) * m ≤ len * m := Nat.mul_le_mul_right _ hi
    rw [Nat.add_mul, Nat.one_mul] at this
    omega

theorem row_struct {d : Nat} {t : TypeId} {n : Nat} {f g : Nat → Value} (Q : Field → Prop) (hu : P.underlying t = some (.struct (P.fieldsOf t))) (hp : P.stoodInHeld t = false)
    (h : ∀ x ∈ (P.fieldsOf t).toList, x.name ≠ "_" ∧ EqPart P d (rowOf f n) (rowOf g n) x.type x.offset w (Q x)) (hQ : (∀ x ∈ (P.fieldsOf t).toList, Q x) ↔ ∀ j, j < n → f j = g j) : EqRow P (d + 1) t n f g w := by
  obtain ⟨b, h1, h2⟩ := eqFields_iff (P := P) w d (rowOf f n) (rowOf g n) Q (P.fieldsOf t).toList h
  exact ⟨b, (run_equalIn_struct w d t _ _ hu hp).trans h1, h2.trans hQ⟩
end

/-- Which cells a field has. -/
def fieldN (off : Nat) : Nat := if off = 5 then 32 else if off = 37 then 48 else if off = 85 then 32 else if off = 117 then 16 else 1

theorem memFields : (Tryd.prog.fieldsOf 37).toList.map (fun f => (f.name != "_", f.type, f.offset)) =
    [(true, 23, 0), (true, 23, 1), (true, 24, 2), (true, 25, 3), (true, 23, 4), (true, 28, 5), (true, 31, 37), (true, 33, 85), (true, 35, 117), (true, 23, 133), (true, 4, 134), (true, 4, 135)] := by kernel_rfl
theorem timerFields : (Tryd.prog.fieldsOf 27).toList.map (fun f => (f.name != "_", f.type, f.offset)) = [(true, 4, 0), (true, 25, 1)] := by kernel_rfl
theorem counterFields : (Tryd.prog.fieldsOf 30).toList.map (fun f => (f.name != "_", f.type, f.offset)) = [(true, 4, 0), (true, 4, 1), (true, 25, 2)] := by kernel_rfl

theorem eq_timer (d : Nat) (f g : Nat → Value) (w : World) {a a' : Bool} {c c' : Int} (h0 : f 0 = .bool a) (h1 : f 1 = .int .u16 c) (g0 : g 0 = .bool a') (g1 : g 1 = .int .u16 c') : EqRow Tryd.prog (d + 2) 27 2 f g w := by
  refine row_struct (P := Tryd.prog) w (d := d + 1) (fun x => ∀ j, j < 1 → f (x.offset + j) = g (x.offset + j)) (by kernel_rfl) (by kernel_rfl) (fun x hx => ?_) ⟨fun h j hj => ?_, fun h x hx j hj => ?_⟩
  · have hm : (x.name != "_", x.type, x.offset) ∈ [(true, 4, 0), (true, 25, 1)] := timerFields ▸ List.mem_map.2 ⟨x, hx, rfl⟩
    simp only [List.mem_cons, Prod.mk.injEq, List.not_mem_nil, or_false] at hm
    rcases hm with ⟨e1, e2, e3⟩ | ⟨e1, e2, e3⟩
    · exact ⟨by simpa using e1, by rw [e2, e3]; exact part_bool w (by kernel_rfl) Tryd.underlying4 (by omega) h0 g0⟩
    · exact ⟨by simpa using e1, by rw [e2, e3]; exact part_int w (by kernel_rfl) Tryd.underlying25 (by omega) h1 g1⟩
  · have key : ∀ o, o < 2 → ∃ x ∈ (Tryd.prog.fieldsOf 27).toList, x.offset = o := by
      intro o ho
      have hm : ∃ p ∈ (Tryd.prog.fieldsOf 27).toList.map (fun f => (f.name != "_", f.type, f.offset)), p.2.2 = o := by
        rw [timerFields]
        have : o = 0 ∨ o = 1 := by omega
        rcases this with rfl | rfl <;> simp
      obtain ⟨p, hp, ho⟩ := hm
      obtain ⟨x, hx, rfl⟩ := List.mem_map.1 hp
      exact ⟨x, hx, ho⟩
    obtain ⟨x, hx, rfl⟩ := key j hj
    exact h x hx 0 (by omega)
  · have hm : (x.name != "_", x.type, x.offset) ∈ [(true, 4, 0), (true, 25, 1)] := timerFields ▸ List.mem_map.2 ⟨x, hx, rfl⟩
    simp only [List.mem_cons, Prod.mk.injEq, List.not_mem_nil, or_false] at hm
    exact h _ (by omega)

theorem eq_counter (d : Nat) (f g : Nat → Value) (w : World) {a a' b b' : Bool} {c c' : Int} (h0 : f 0 = .bool a) (h1 : f 1 = .bool b) (h2 : f 2 = .int .u16 c) (g0 : g 0 = .bool a') (g1 : g 1 = .bool b') (g2 : g 2 = .int .u16 c') : EqRow Tryd.prog (d + 2) 30 3 f g w := by
  refine row_struct (P := Tryd.prog) w (d := d + 1) (fun x => ∀ j, j < 1 → f (x.offset + j) = g (x.offset + j)) (by kernel_rfl) (by kernel_rfl) (fun x hx => ?_) ⟨fun h j hj => ?_, fun h x hx j hj => ?_⟩
  · have hm : (x.name != "_", x.type, x.offset) ∈ [(true, 4, 0), (true, 4, 1), (true, 25, 2)] := counterFields ▸ List.mem_map.2 ⟨x, hx, rfl⟩
    simp only [List.mem_cons, Prod.mk.injEq, List.not_mem_nil, or_false] at hm
    rcases hm with ⟨e1, e2, e3⟩ | ⟨e1, e2, e3⟩ | ⟨e1, e2, e3⟩
    · exact ⟨by simpa using e1, by rw [e2, e3]; exact part_bool w (by kernel_rfl) Tryd.underlying4 (by omega) h0 g0⟩
    · exact ⟨by simpa using e1, by rw [e2, e3]; exact part_bool w (by kernel_rfl) Tryd.underlying4 (by omega) h1 g1⟩
    · exact ⟨by simpa using e1, by rw [e2, e3]; exact part_int w (by kernel_rfl) Tryd.underlying25 (by omega) h2 g2⟩
  · have key : ∀ o, o < 3 → ∃ x ∈ (Tryd.prog.fieldsOf 30).toList, x.offset = o := by
      intro o ho
      have hm : ∃ p ∈ (Tryd.prog.fieldsOf 30).toList.map (fun f => (f.name != "_", f.type, f.offset)), p.2.2 = o := by
        rw [counterFields]
        have : o = 0 ∨ o = 1 ∨ o = 2 := by omega
        rcases this with rfl | rfl | rfl <;> simp
      obtain ⟨p, hp, ho⟩ := hm
      obtain ⟨x, hx, rfl⟩ := List.mem_map.1 hp
      exact ⟨x, hx, ho⟩
    obtain ⟨x, hx, rfl⟩ := key j hj
    exact h x hx 0 (by omega)
  · have hm : (x.name != "_", x.type, x.offset) ∈ [(true, 4, 0), (true, 4, 1), (true, 25, 2)] := counterFields ▸ List.mem_map.2 ⟨x, hx, rfl⟩
    simp only [List.mem_cons, Prod.mk.injEq, List.not_mem_nil, or_false] at hm
    exact h _ (by omega)

theorem eq_timers (d : Nat) (a b : MemV) (w : World) : EqRow Tryd.prog (d + 3) 28 32 (fun j => a.cell (5 + j)) (fun j => b.cell (5 + j)) w := by
  refine row_array (P := Tryd.prog) w (d := d + 2) (len := 16) (m := 2) (e := 27) (by omega) Tryd.underlying28 (i := (Tryd.prog.info? 27).getD default) (by kernel_rfl) (by kernel_rfl) (fun i hi => ?_)
  refine part_row (P := Tryd.prog) w (by kernel_rfl) (by kernel_rfl) (by omega) ?_
  refine eq_timer d _ _ w (a := a.tD i) (c := a.tC i) (a' := b.tD i) (c' := b.tC i) ?_ ?_ ?_ ?_
  · rw [show 5 + (i * 2 + 0) = 5 + i * 2 by omega]; exact a.cell_tD i hi
  · rw [show 5 + (i * 2 + 1) = 5 + i * 2 + 1 by omega]; exact a.cell_tC i hi
  · rw [show 5 + (i * 2 + 0) = 5 + i * 2 by omega]; exact b.cell_tD i hi
  · rw [show 5 + (i * 2 + 1) = 5 + i * 2 + 1 by omega]; exact b.cell_tC i hi
theorem eq_counters (d : Nat) (a b : MemV) (w : World) : EqRow Tryd.prog (d + 3) 31 48 (fun j => a.cell (37 + j)) (fun j => b.cell (37 + j)) w := by
  refine row_array (P := Tryd.prog) w (d := d + 2) (len := 16) (m := 3) (e := 30) (by omega) Tryd.underlying31 (i := (Tryd.prog.info? 30).getD default) (by kernel_rfl) (by kernel_rfl) (fun i hi => ?_)
  refine part_row (P := Tryd.prog) w (by kernel_rfl) (by kernel_rfl) (by omega) ?_
  refine eq_counter d _ _ w (a := a.cD i) (b := a.cL i) (c := a.cC i) (a' := b.cD i) (b' := b.cL i) (c' := b.cC i) ?_ ?_ ?_ ?_ ?_ ?_
  · rw [show 37 + (i * 3 + 0) = 37 + i * 3 by omega]; exact a.cell_cD i hi
  · rw [show 37 + (i * 3 + 1) = 37 + i * 3 + 1 by omega]; exact a.cell_cL i hi
  · rw [show 37 + (i * 3 + 2) = 37 + i * 3 + 2 by omega]; exact a.cell_cC i hi
  · rw [show 37 + (i * 3 + 0) = 37 + i * 3 by omega]; exact b.cell_cD i hi
  · rw [show 37 + (i * 3 + 1) = 37 + i * 3 + 1 by omega]; exact b.cell_cL i hi
  · rw [show 37 + (i * 3 + 2) = 37 + i * 3 + 2 by omega]; exact b.cell_cC i hi
theorem eq_ints (d : Nat) (a b : MemV) (w : World) : EqRow Tryd.prog (d + 3) 33 32 (fun j => a.cell (85 + j)) (fun j => b.cell (85 + j)) w := by
  refine row_array (P := Tryd.prog) w (d := d + 2) (len := 32) (m := 1) (e := 32) (by omega) Tryd.underlying33 (i := (Tryd.prog.info? 32).getD default) (by kernel_rfl) (by kernel_rfl) (fun i hi => ?_)
  refine part_int (P := Tryd.prog) w (d := d + 1) (k := .i16) (a := a.d i) (c := b.d i) (by kernel_rfl) Tryd.underlying32 (by omega) ?_ ?_
  · rw [Nat.mul_one]; exact a.cell_d i hi
  · rw [Nat.mul_one]; exact b.cell_d i hi
theorem eq_reals (d : Nat) (a b : MemV) (w : World) (ha : ∀ i, a.r i = 0) (hb : ∀ i, b.r i = 0) : EqRow Tryd.prog (d + 3) 35 16 (fun j => a.cell (117 + j)) (fun j => b.cell (117 + j)) w := by
  refine row_array (P := Tryd.prog) w (d := d + 2) (len := 16) (m := 1) (e := 34) (by omega) Tryd.underlying35 (i := (Tryd.prog.info? 34).getD default) (by kernel_rfl) (by kernel_rfl) (fun i hi => ?_)
  refine part_zero (P := Tryd.prog) w (d := d + 1) (by kernel_rfl) Tryd.underlying34 (by omega) ?_ ?_
  · rw [Nat.mul_one, a.cell_r i hi, ha]
  · rw [Nat.mul_one, b.cell_r i hi, hb]

theorem eql_mem (a b : MemV) (w : World) (ha : ∀ i, a.r i = 0) (hb : ∀ i, b.r i = 0) :
    ∃ q : Bool, (Op.equalIn 10000 37 (.agg a.row) (.agg b.row)).run Tryd.prog w = .ok q w ∧ (q = true ↔ ∀ j, j < 136 → a.cell j = b.cell j) := by
  show EqRow Tryd.prog (9999 + 1) 37 136 a.cell b.cell w
  refine row_struct (P := Tryd.prog) w (d := 9999) (fun x => ∀ j, j < fieldN x.offset → a.cell (x.offset + j) = b.cell (x.offset + j)) (by kernel_rfl) (by kernel_rfl) (fun x hx => ?_) ⟨fun h j hj => ?_, fun h x hx j hj => ?_⟩
  · have hm := memFields ▸ List.mem_map.2 ⟨x, hx, rfl⟩
    simp only [List.mem_cons, Prod.mk.injEq, List.not_mem_nil, or_false] at hm
    have pi : ∀ {t : TypeId} {off : Nat} {k : IntKind} {y z : Int}, (isAgg t).run Tryd.prog w = .ok false w → Tryd.prog.underlying t = some (.int k) → off < 136 → a.cell off = .int k y → b.cell off = .int k z → EqPart Tryd.prog 9999 (rowOf a.cell 136) (rowOf b.cell 136) t off w (∀ j, j < 1 → a.cell (off + j) = b.cell (off + j)) :=
      fun h1 h2 h3 h4 h5 => part_int (P := Tryd.prog) w (d := 9998) h1 h2 h3 h4 h5
    have pb : ∀ {t : TypeId} {off : Nat} {y z : Bool}, (isAgg t).run Tryd.prog w = .ok false w → Tryd.prog.underlying t = some .bool → off < 136 → a.cell off = .bool y → b.cell off = .bool z → EqPart Tryd.prog 9999 (rowOf a.cell 136) (rowOf b.cell 136) t off w (∀ j, j < 1 → a.cell (off + j) = b.cell (off + j)) :=
      fun h1 h2 h3 h4 h5 => part_bool (P := Tryd.prog) w (d := 9998) h1 h2 h3 h4 h5
    rcases hm with ⟨e1, e2, e3⟩ | ⟨e1, e2, e3⟩ | ⟨e1, e2, e3⟩ | ⟨e1, e2, e3⟩ | ⟨e1, e2, e3⟩ | ⟨e1, e2, e3⟩ | ⟨e1, e2, e3⟩ | ⟨e1, e2, e3⟩ | ⟨e1, e2, e3⟩ | ⟨e1, e2, e3⟩ | ⟨e1, e2, e3⟩ | ⟨e1, e2, e3⟩
    all_goals (refine ⟨by simpa using e1, ?_⟩; rw [e2, e3])
    · exact pi (by kernel_rfl) Tryd.underlying23 (by omega) a.cell_x b.cell_x
    · exact pi (by kernel_rfl) Tryd.underlying23 (by omega) a.cell_y b.cell_y
    · exact pi (by kernel_rfl) Tryd.underlying24 (by omega) a.cell_m b.cell_m
    · exact pi (by kernel_rfl) Tryd.underlying25 (by omega) a.cell_s b.cell_s
    · exact pi (by kernel_rfl) Tryd.underlying23 (by omega) a.cell_e b.cell_e
    · exact part_row (P := Tryd.prog) w (m := 32) (by kernel_rfl) (by kernel_rfl) (by omega) (eq_timers 9996 a b w)
    · exact part_row (P := Tryd.prog) w (m := 48) (by kernel_rfl) (by kernel_rfl) (by omega) (eq_counters 9996 a b w)
    · exact part_row (P := Tryd.prog) w (m := 32) (by kernel_rfl) (by kernel_rfl) (by omega) (eq_ints 9996 a b w)
    · exact part_row (P := Tryd.prog) w (m := 16) (by kernel_rfl) (by kernel_rfl) (by omega) (eq_reals 9996 a b w ha hb)
    · exact pi (by kernel_rfl) Tryd.underlying23 (by omega) a.cell_time b.cell_time
    · exact pb (by kernel_rfl) Tryd.underlying4 (by omega) a.cell_ran b.cell_ran
    · exact pb (by kernel_rfl) Tryd.underlying4 (by omega) a.cell_fault b.cell_fault
  · have key : ∀ o, o = 0 ∨ o = 1 ∨ o = 2 ∨ o = 3 ∨ o = 4 ∨ o = 5 ∨ o = 37 ∨ o = 85 ∨ o = 117 ∨ o = 133 ∨ o = 134 ∨ o = 135 → ∃ x ∈ (Tryd.prog.fieldsOf 37).toList, x.offset = o := by
      intro o ho
      have hm : ∃ p ∈ (Tryd.prog.fieldsOf 37).toList.map (fun f => (f.name != "_", f.type, f.offset)), p.2.2 = o := by
        rw [memFields]
        rcases ho with rfl | rfl | rfl | rfl | rfl | rfl | rfl | rfl | rfl | rfl | rfl | rfl <;> simp
      obtain ⟨p, hp, ho⟩ := hm
      obtain ⟨x, hx, rfl⟩ := List.mem_map.1 hp
      exact ⟨x, hx, ho⟩
    have use : ∀ o n, (o = 0 ∨ o = 1 ∨ o = 2 ∨ o = 3 ∨ o = 4 ∨ o = 5 ∨ o = 37 ∨ o = 85 ∨ o = 117 ∨ o = 133 ∨ o = 134 ∨ o = 135) → fieldN o = n → ∀ i, i < n → a.cell (o + i) = b.cell (o + i) := by
      intro o n ho hn i hi
      obtain ⟨x, hx, rfl⟩ := key o ho
      exact h x hx i (by omega)
    by_cases h5 : j < 5
    · exact use j 1 (by omega) (by unfold fieldN; rw [if_neg (by omega), if_neg (by omega), if_neg (by omega), if_neg (by omega)]) 0 (by omega)
    by_cases h37 : j < 37
    · have := use 5 32 (by omega) rfl (j - 5) (by omega)
      rwa [show 5 + (j - 5) = j by omega] at this
    by_cases h85 : j < 85
    · have := use 37 48 (by omega) rfl (j - 37) (by omega)
      rwa [show 37 + (j - 37) = j by omega] at this
    by_cases h117 : j < 117
    · have := use 85 32 (by omega) rfl (j - 85) (by omega)
      rwa [show 85 + (j - 85) = j by omega] at this
    by_cases h133 : j < 133
    · have := use 117 16 (by omega) rfl (j - 117) (by omega)
      rwa [show 117 + (j - 117) = j by omega] at this
    · exact use j 1 (by omega) (by unfold fieldN; rw [if_neg (by omega), if_neg (by omega), if_neg (by omega), if_neg (by omega)]) 0 (by omega)
  · have hm := memFields ▸ List.mem_map.2 ⟨x, hx, rfl⟩
    simp only [List.mem_cons, Prod.mk.injEq, List.not_mem_nil, or_false] at hm
    refine h _ ?_
    unfold fieldN at hj
    rcases hm with ⟨-, -, e⟩ | ⟨-, -, e⟩ | ⟨-, -, e⟩ | ⟨-, -, e⟩ | ⟨-, -, e⟩ | ⟨-, -, e⟩ | ⟨-, -, e⟩ | ⟨-, -, e⟩ | ⟨-, -, e⟩ | ⟨-, -, e⟩ | ⟨-, -, e⟩ | ⟨-, -, e⟩ <;> rw [e] at hj ⊢ <;> simp at hj <;> omega

end Go.Proofs.YtdhoimjkgicneabDoor

/- Laws of walks: a region that draws its order and leaves what was there, operation by operation; an operator on two values, given what it gives. -/
namespace Go.Proofs.YtdhoimjkgicneabDoor
open Go Go.RowKit

/-- A region that draws its order, whose operations and callees leave what was there. -/
theorem wp_region_belowM {P : Program} {id : Nat} {Q : Exit → Act → World → Prop} {a : Act} {w : World} {l : List Oper} (hm : P.follows .mixedOrders = true) (hB : Region.lexB .any l.toArray = true)
    (h : wpQuiet P l.toArray (Below w.heap.size w) (fun a' => ∀ w', Below w.heap.size w w' → Q .normal a' w') l a) : (Code.region id l.toArray true).wp P Q a w :=
  wp_region_quiet (C := Below w.heap.size w) hm hB (Below.refl w.heap.size w).drew (by simpa using h)

section
variable {ops : Array Oper} {C : World → Prop} {Q : Act → Prop} {rest : List Oper} {o : Oper} {a : Act}
theorem quiet_any {v : Value} (hg : Region.wanted o (yielded ops a.tmps) = true) (h : ∀ w, C w → (execOp a.eval o).run Tryd.prog w = .ok (.value v) w) (hK : wpQuiet Tryd.prog ops C Q rest (a.put o.dst v)) : wpQuiet Tryd.prog ops C Q (o :: rest) a := by
  rw [wpQuiet, if_pos hg]
  refine ⟨v, fun w hw => ?_, hK⟩
  unfold Oper.quietAt
  rw [h w hw]
  first | exact ⟨rfl, rfl⟩ | exact ⟨rfl, hw⟩ | simp [Oper.quietUpon, hw]
theorem quiet_load {t : TypeId} {p : Operand} {x v : Value} (ho : o.op = .load t p) (hx : a.eval p = x) (hg : Region.wanted o (yielded ops a.tmps) = true) (h : ∀ w, C w → (Instr.loadAt t x).run Tryd.prog w = .ok v w)
    (hK : wpQuiet Tryd.prog ops C Q rest (a.put o.dst v)) : wpQuiet Tryd.prog ops C Q (o :: rest) a := by
  refine quiet_any hg (fun w hw => ?_) hK
  subst hx
  simp only [execOp, ho, Sem.run_bind, h w hw, Result.andThen, Sem.run_pure]
theorem quiet_bin {op : BinOp} {t t2 : TypeId} {x y : Operand} {u1 u2 v : Value} (ho : o.op = .binOp op t x y t2) (hx : a.eval x = u1) (hy : a.eval y = u2) (hg : Region.wanted o (yielded ops a.tmps) = true)
    (h1 : ∀ w, (eqGuard op t x y u1 u2).run Tryd.prog w = .ok () w) (h2 : ∀ w, (binOp op t u1 u2).run Tryd.prog w = .ok v w) (hK : wpQuiet Tryd.prog ops C Q rest (a.put o.dst v)) : wpQuiet Tryd.prog ops C Q (o :: rest) a := by
  refine quiet_any hg (fun w _ => ?_) hK
  subst hx hy
  simp only [execOp, ho, Sem.run_bind, h1 w, h2 w, Result.andThen, Sem.run_pure]
end

theorem list_bin {ops : Array Oper} {Q : Exit → Act → World → Prop} {rest : List Oper} {o : Oper} {a : Act} {w : World} {op : BinOp} {t t2 : TypeId} {x y : Operand} {u1 u2 u : Value}
    (ho : o.op = .binOp op t x y t2) (hx : a.eval x = u1) (hy : a.eval y = u2) (hg : Region.wanted o (yielded ops a.tmps) = true)
    (h1 : (eqGuard op t x y u1 u2).run Tryd.prog w = .ok () w) (h2 : (binOp op t u1 u2).run Tryd.prog w = .ok u w) (hK : wpList Tryd.prog ops Q rest (a.put o.dst u) w) : wpList Tryd.prog ops Q (o :: rest) a w := by
  rw [wpList, if_pos hg]
  subst hx hy
  refine .inl ?_
  have e : (execOp a.eval o).run Tryd.prog w = .ok (.value u) w := by
    simp only [execOp, ho, Sem.run_bind, h1, h2, Result.andThen, Sem.run_pure]
  unfold Oper.wp
  rw [e]
  exact hK

end Go.Proofs.YtdhoimjkgicneabDoor
