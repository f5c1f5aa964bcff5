/- Texts of this proof laid together: MsA, MsB, MsC. -/
import Derived.Test.YtdhoimjkgicneaaDoorLot27
import Derived.Test.YtdhoimjkgicneaaDoorLot20
import Derived.Test.YtdhoimjkgicneaaDoorLot9
/- Two arrays of one kind of numbers, compared. -/
namespace Go.Proofs.YtdhoimjkgicneaaDoor
open Go Go.RowKit

/-- Two arrays of one kind of numbers. -/
theorem eql_words (f g : Nat → Int) (w : World) : ∃ b : Bool, (Op.equalIn 10000 114 (.agg (rowOf (fun i => .int .u64 (f i)) 16)) (.agg (rowOf (fun i => .int .u64 (g i)) 16))).run Tryd.prog w = .ok b w ∧ (b = true ↔ ∀ i, i < 16 → f i = g i) := by
  have e := run_equalIn_array (P := Tryd.prog) w 9999 (t := 114) (e := 50) (n := 16) (rowOf (fun i => .int .u64 (f i)) 16) (rowOf (fun i => .int .u64 (g i)) 16) Tryd.underlying114 (i := (Tryd.prog.info? 50).getD default) (by kernel_rfl)
  have hc : Tryd.prog.cellsOf 50 = 1 := by kernel_rfl
  rw [hc] at e
  obtain ⟨b, h1, h2⟩ := eqItems_iff (P := Tryd.prog) w 9999 50 1 (rowOf (fun i => .int .u64 (f i)) 16) (rowOf (fun i => .int .u64 (g i)) 16) (fun i => f i = g i) (List.range 16) (fun i hi => by
    have hi : i < 16 := by simpa using hi
    have c1 : (rowOf (fun i => (.int .u64 (f i) : Value)) 16)[i * 1]? = some (.int .u64 (f i)) := by rw [Nat.mul_one, rowOf_get _ hi]
    have c2 : (rowOf (fun i => (.int .u64 (g i) : Value)) 16)[i * 1]? = some (.int .u64 (g i)) := by rw [Nat.mul_one, rowOf_get _ hi]
    obtain ⟨x, y, b, g1, g2, g3, g4⟩ := eq_int (P := Tryd.prog) w (d := 9998) (t := 50) (by kernel_rfl) Tryd.underlying50 c1 c2
    refine ⟨x, y, b, g1, g2, g3, ?_⟩
    rw [g4, c1, c2]
    simp)
  exact ⟨b, e.trans h1, by rw [h2]; simp⟩

end Go.Proofs.YtdhoimjkgicneaaDoor

/- The program's MemSame: the words of real numbers. -/
namespace Go.Proofs.YtdhoimjkgicneaaDoor
open Go Go.RowKit

/-- Which word stands for a real number. -/
def canonW (x : Nat) : Nat := if (FloatKind.f64.format.order x x != some .eq) = true then 9221120237041090561 else x

theorem aWords : ∀ w, (isAgg 114).run Tryd.prog w = .ok true w := fun _ => by kernel_rfl
theorem sWords : ∀ w, (sizeOf 114).run Tryd.prog w = .ok 16 w := fun _ => by kernel_rfl
theorem index_real (r : Nat → Nat) (k : Nat) (hk : k < 16) (w : World) : (Instr.index 59 (.agg (rowOf (fReal r) 16)) (.int .i64 k)).run Tryd.prog w = .ok (.float .f64 (r k)) w := by
  have hp : (part 35 (rowOf (fReal r) 16) k).run Tryd.prog w = .ok (.float .f64 (r k)) w := part_one w (by kernel_rfl) (rowOf_get _ hk)
  have hs : (sizeOf 35).run Tryd.prog w = .ok 1 w := by kernel_rfl
  simp [Instr.index, asIntOf, run_underlying Tryd.underlying59, hk, hs, hp]

set_option maxRecDepth 100000 in
set_option maxHeartbeats 2000000 in
theorem real_bits (r : Nat → Nat) (w : World) :
    Calls Tryd.prog 95 #[.agg (rowOf (fReal r) 16)] w fun e w' => e = .returned (.agg (rowOf (fun i => .int .u64 (canonW (r i))) 16)) ∧ Below w.heap.size w w' := by
  obtain ⟨f, hf⟩ : ∃ f : Nat → Value, f = fun i => .int .u64 (canonW (r i)) := ⟨_, rfl⟩
  have f0 : ∀ k : Nat, f k = .int .u64 (canonW (r k)) := fun k => by rw [hf]
  have fo : ∀ k, (f k).oneCell' = true := fun k => by rw [hf]; rfl
  rw [← hf]
  clear hf
  obtain ⟨R0, R1, R2, RB⟩ := three_rows (fReal r) (fun _ => .int .u64 0) 16 w 59 114 114
  go_enter Tryd.func95, Tryd.ntmps95
  go_wp2_with (refine list_load (t := 59) rfl rfl rfl (load_row aReal sReal R0) ?_)
  go_loopw [7, 4, 5] (fun i a b wr => ∃ k : Nat, k ≤ 16 ∧ i = .int .i64 k ∧ RowAt (w.heap.size + 1) 0 16 (fun _ => .int .u64 0) wr ∧ RowAt (w.heap.size + 1 + 1) 0 16 (fun j => if j < k then f j else .int .u64 0) wr ∧ Below w.heap.size w wr) (fun i _ _ _ => 16 - (intOf i).toNat)
  case atStart => exact ⟨0, by omega, rfl, R1, R2, RB⟩
  case round =>
    clear R0 R1 R2 RB
    obtain ⟨k, hk, rfl, R1, R2, RB⟩ := hrel
    by_cases hlt : k < 16
    · have ix := index_real r k hlt
      have tb := to_bits
      have c0 := R2.c0 (k := k) (by omega)
      have e0 := R2.f0 (k := k) (by omega)
      have fk := f0 k
      have R1' := R1.at_other (c := w.heap.size + 1 + 1) (k := k) (u := f k) (by omega)
      have R2' := R2.more (m := k + 1) (u := f k) (by omega) (by omega) rfl
      have RB' := RB.setCell (p := ⟨w.heap.size + 1 + 1, k, none⟩) (by simp; omega) (f k)
      rw [fk] at R1' R2' RB'
      unfold canonW at R1' R2' RB'
      cases hx : FloatKind.f64.format.order (r k) (r k) != some .eq with
      | true =>
        rw [hx, if_pos rfl] at R1' R2' RB'
        go_wp2_with fail
        refine (lib_nan wr).mono ?_
        rintro e w1 ⟨rfl, rfl⟩
        go_wp2_with fail
        go_roundw
        case rel => exact ⟨k + 1, by omega, by go_num, R1', R2', RB'⟩
        case measure => simp [intOf]; omega
      | false =>
        rw [hx, if_neg (by decide)] at R1' R2' RB'
        go_wp2_with fail
        go_roundw
        case rel => exact ⟨k + 1, by omega, by go_num, R1', R2', RB'⟩
        case measure => simp [intOf]; omega
    · have e : k = 16 := by omega
      subst e
      have R2 : RowAt (w.heap.size + 1 + 1) 0 16 f wr := R2.congr (fun j hj => by rw [if_pos (by omega)])
      have R1' := R1.stored f
      have RB' := setCells_below (rowOf f 16).toList (w.heap.size + 1) 0 RB (by omega)
      go_wp2_with (first | refine list_load (t := 114) rfl rfl rfl (load_row aWords sWords R2) ?_ | refine list_store (t := 114) rfl rfl rfl rfl (store_row f sWords (fun k _ => fo k) R1) ?_)
      exact ret_row (c := 2) aWords sWords rfl rfl rfl R1' ⟨rfl, RB'⟩

end Go.Proofs.YtdhoimjkgicneaaDoor

/- How two memories without real numbers are compared, cell by cell. -/
namespace Go.Proofs.YtdhoimjkgicneaaDoor
open Go Go.RowKit

section
variable {P : Program} (w : World)

/-- Two rows of one type are compared. -/
def EqRow (P : Program) (d : Nat) (t : TypeId) (n : Nat) (f g : Nat → Value) (w : World) : Prop :=
  ∃ b : Bool, (Op.equalIn d t (.agg (rowOf f n)) (.agg (rowOf g n))).run P w = .ok b w ∧ (b = true ↔ ∀ j, j < n → f j = g j)

theorem part_row {d : Nat} {t : TypeId} {n m off : Nat} {f g : Nat → Value} (ha : (isAgg t).run P w = .ok true w) (hs : (sizeOf t).run P w = .ok m w) (hn : off + m ≤ n)
    (h : EqRow P d t m (fun j => f (off + j)) (fun j => g (off + j)) w) : EqPart P d (rowOf f n) (rowOf g n) t off w (∀ j, j < m → f (off + j) = g (off + j)) := by
  obtain ⟨b, h1, h2⟩ := h
  refine ⟨_, _, b, part_agg w ha hs, part_agg w ha hs, ?_, h2⟩
  rw [extract_row f hn, extract_row g hn]
  exact h1

theorem part_int {d : Nat} {t : TypeId} {n off : Nat} {f g : Nat → Value} {k : IntKind} {a c : Int} (ha : (isAgg t).run P w = .ok false w) (hu : P.underlying t = some (.int k)) (hn : off < n) (h1 : f off = .int k a) (h2 : g off = .int k c) :
    EqPart P (d + 1) (rowOf f n) (rowOf g n) t off w (∀ j, j < 1 → f (off + j) = g (off + j)) := by
  obtain ⟨x, y, b, g1, g2, g3, g4⟩ := eq_int (P := P) w (d := d) ha hu ((rowOf_get f hn).trans (by rw [h1])) ((rowOf_get g hn).trans (by rw [h2]))
  refine ⟨x, y, b, g1, g2, g3, ?_⟩
  rw [g4, rowOf_get f hn, rowOf_get g hn]
  constructor
  · intro e j hj
    have : j = 0 := by omega
    subst this
    exact Option.some.inj e
  · intro e
    exact congrArg some (e 0 (by omega))
theorem part_bool {d : Nat} {t : TypeId} {n off : Nat} {f g : Nat → Value} {a c : Bool} (ha : (isAgg t).run P w = .ok false w) (hu : P.underlying t = some .bool) (hn : off < n) (h1 : f off = .bool a) (h2 : g off = .bool c) :
    EqPart P (d + 1) (rowOf f n) (rowOf g n) t off w (∀ j, j < 1 → f (off + j) = g (off + j)) := by
  obtain ⟨x, y, b, g1, g2, g3, g4⟩ := eq_bool (P := P) w (d := d) ha hu ((rowOf_get f hn).trans (by rw [h1])) ((rowOf_get g hn).trans (by rw [h2]))
  refine ⟨x, y, b, g1, g2, g3, ?_⟩
  rw [g4, rowOf_get f hn, rowOf_get g hn]
  constructor
  · intro e j hj
    have : j = 0 := by omega
    subst this
    exact Option.some.inj e
  · intro e
    exact congrArg some (e 0 (by omega))
theorem part_zero {d : Nat} {t : TypeId} {n off : Nat} {f g : Nat → Value} (ha : (isAgg t).run P w = .ok false w) (hu : P.underlying t = some (.float .f64)) (hn : off < n) (h1 : f off = .float .f64 0) (h2 : g off = .float .f64 0) :
    EqPart P (d + 1) (rowOf f n) (rowOf g n) t off w (∀ j, j < 1 → f (off + j) = g (off + j)) := by
  refine ⟨_, _, true, part_one w ha ((rowOf_get f hn).trans (by rw [h1])), part_one w ha ((rowOf_get g hn).trans (by rw [h2])), ?_, ?_⟩
  · have e : Op.floatEq .f64 0 0 = true := by decide +kernel
    simp [Op.equalIn, run_underlying hu, e]
  · refine ⟨fun _ j hj => ?_, fun _ => rfl⟩
    have : j = 0 := by omega
    subst this
    rw [Nat.add_zero, h1, h2]

theorem row_array {d : Nat} {t e : TypeId} {len m : Nat} {i : TypeInfo} {f g : Nat → Value} (hm : 0 < m) (hu : P.underlying t = some (.array len e)) (hi : P.info? e = some i) (hc : P.cellsOf e = m)
    (h : ∀ i, i < len → EqPart P d (rowOf f (len * m)) (rowOf g (len * m)) e (i * m) w (∀ j, j < m → f (i * m + j) = g (i * m + j))) : EqRow P (d + 1) t (len * m) f g w := by
  obtain ⟨b, h1, h2⟩ := eqItems_iff (P := P) w d e m (rowOf f (len * m)) (rowOf g (len * m)) (fun i => ∀ j, j < m → f (i * m + j) = g (i * m + j)) (List.range len) (fun i hi => h i (by simpa using hi))
  refine ⟨b, (run_equalIn_array (P := P) w d _ _ hu hi).trans (by rw [hc]; exact h1), ?_⟩
  rw [h2]
  constructor
  · intro e k hk
    have hlt : k / m < len := (Nat.div_lt_iff_lt_mul hm).2 hk
    have := e (k / m) (by simpa using hlt) (k % m) (Nat.mod_lt _ hm)
    have ek : k / m * m + k % m = k := by rw [Nat.mul_comm]; exact Nat.div_add_mod k m
    rwa [ek] at this
  · intro e i hi j hj
    have hi : i < len := by simpa using hi
    refine e _ ?_
    have : (i + 1) * m ≤ len * m := Nat.mul_le_mul_right _ hi
    rw [Nat.add_mul, Nat.one_mul] at this
    omega

theorem row_struct {d : Nat} {t : TypeId} {n : Nat} {f g : Nat → Value} (Q : Field → Prop) (hu : P.underlying t = some (.struct (P.fieldsOf t))) (hp : P.stoodInHeld t = false)
    (h : ∀ x ∈ (P.fieldsOf t).toList, x.name ≠ "_" ∧ EqPart P d (rowOf f n) (rowOf g n) x.type x.offset w (Q x)) (hQ : (∀ x ∈ (P.fieldsOf t).toList, Q x) ↔ ∀ j, j < n → f j = g j) : EqRow P (d + 1) t n f g w := by
  obtain ⟨b, h1, h2⟩ := eqFields_iff (P := P) w d (rowOf f n) (rowOf g n) Q (P.fieldsOf t).toList h
  exact ⟨b, (run_equalIn_struct w d t _ _ hu hp).trans h1, h2.trans hQ⟩
end

/-- Which cells a field has. -/
def fieldN (off : Nat) : Nat := if off = 5 then 32 else if off = 37 then 48 else if off = 85 then 32 else if off = 117 then 16 else 1

theorem memFields : (Tryd.prog.fieldsOf 61).toList.map (fun f => (f.name != "_", f.type, f.offset)) =
    [(true, 49, 0), (true, 49, 1), (true, 50, 2), (true, 51, 3), (true, 49, 4), (true, 54, 5), (true, 57, 37), (true, 58, 85), (true, 59, 117), (true, 49, 133), (true, 4, 134), (true, 4, 135)] := by kernel_rfl
theorem timerFields : (Tryd.prog.fieldsOf 53).toList.map (fun f => (f.name != "_", f.type, f.offset)) = [(true, 4, 0), (true, 51, 1)] := by kernel_rfl
theorem counterFields : (Tryd.prog.fieldsOf 56).toList.map (fun f => (f.name != "_", f.type, f.offset)) = [(true, 4, 0), (true, 4, 1), (true, 51, 2)] := by kernel_rfl

theorem eq_timer (d : Nat) (f g : Nat → Value) (w : World) {a a' : Bool} {c c' : Int} (h0 : f 0 = .bool a) (h1 : f 1 = .int .u16 c) (g0 : g 0 = .bool a') (g1 : g 1 = .int .u16 c') : EqRow Tryd.prog (d + 2) 53 2 f g w := by
  refine row_struct (P := Tryd.prog) w (d := d + 1) (fun x => ∀ j, j < 1 → f (x.offset + j) = g (x.offset + j)) (by kernel_rfl) (by kernel_rfl) (fun x hx => ?_) ⟨fun h j hj => ?_, fun h x hx j hj => ?_⟩
  · have hm : (x.name != "_", x.type, x.offset) ∈ [(true, 4, 0), (true, 51, 1)] := timerFields ▸ List.mem_map.2 ⟨x, hx, rfl⟩
    simp only [List.mem_cons, Prod.mk.injEq, List.not_mem_nil, or_false] at hm
    rcases hm with ⟨e1, e2, e3⟩ | ⟨e1, e2, e3⟩
    · exact ⟨by simpa using e1, by rw [e2, e3]; exact part_bool w (by kernel_rfl) Tryd.underlying4 (by omega) h0 g0⟩
    · exact ⟨by simpa using e1, by rw [e2, e3]; exact part_int w (by kernel_rfl) Tryd.underlying51 (by omega) h1 g1⟩
  · have key : ∀ o, o < 2 → ∃ x ∈ (Tryd.prog.fieldsOf 53).toList, x.offset = o := by
      intro o ho
      have hm : ∃ p ∈ (Tryd.prog.fieldsOf 53).toList.map (fun f => (f.name != "_", f.type, f.offset)), p.2.2 = o := by
        rw [timerFields]
        have : o = 0 ∨ o = 1 := by omega
        rcases this with rfl | rfl <;> simp
      obtain ⟨p, hp, ho⟩ := hm
      obtain ⟨x, hx, rfl⟩ := List.mem_map.1 hp
      exact ⟨x, hx, ho⟩
    obtain ⟨x, hx, rfl⟩ := key j hj
    exact h x hx 0 (by omega)
  · have hm : (x.name != "_", x.type, x.offset) ∈ [(true, 4, 0), (true, 51, 1)] := timerFields ▸ List.mem_map.2 ⟨x, hx, rfl⟩
    simp only [List.mem_cons, Prod.mk.injEq, List.not_mem_nil, or_false] at hm
    exact h _ (by omega)

theorem eq_counter (d : Nat) (f g : Nat → Value) (w : World) {a a' b b' : Bool} {c c' : Int} (h0 : f 0 = .bool a) (h1 : f 1 = .bool b) (h2 : f 2 = .int .u16 c) (g0 : g 0 = .bool a') (g1 : g 1 = .bool b') (g2 : g 2 = .int .u16 c') : EqRow Tryd.prog (d + 2) 56 3 f g w := by
  refine row_struct (P := Tryd.prog) w (d := d + 1) (fun x => ∀ j, j < 1 → f (x.offset + j) = g (x.offset + j)) (by kernel_rfl) (by kernel_rfl) (fun x hx => ?_) ⟨fun h j hj => ?_, fun h x hx j hj => ?_⟩
  · have hm : (x.name != "_", x.type, x.offset) ∈ [(true, 4, 0), (true, 4, 1), (true, 51, 2)] := counterFields ▸ List.mem_map.2 ⟨x, hx, rfl⟩
    simp only [List.mem_cons, Prod.mk.injEq, List.not_mem_nil, or_false] at hm
    rcases hm with ⟨e1, e2, e3⟩ | ⟨e1, e2, e3⟩ | ⟨e1, e2, e3⟩
    · exact ⟨by simpa using e1, by rw [e2, e3]; exact part_bool w (by kernel_rfl) Tryd.underlying4 (by omega) h0 g0⟩
    · exact ⟨by simpa using e1, by rw [e2, e3]; exact part_bool w (by kernel_rfl) Tryd.underlying4 (by omega) h1 g1⟩
    · exact ⟨by simpa using e1, by rw [e2, e3]; exact part_int w (by kernel_rfl) Tryd.underlying51 (by omega) h2 g2⟩
  · have key : ∀ o, o < 3 → ∃ x ∈ (Tryd.prog.fieldsOf 56).toList, x.offset = o := by
      intro o ho
      have hm : ∃ p ∈ (Tryd.prog.fieldsOf 56).toList.map (fun f => (f.name != "_", f.type, f.offset)), p.2.2 = o := by
        rw [counterFields]
        have : o = 0 ∨ o = 1 ∨ o = 2 := by omega
        rcases this with rfl | rfl | rfl <;> simp
      obtain ⟨p, hp, ho⟩ := hm
      obtain ⟨x, hx, rfl⟩ := List.mem_map.1 hp
      exact ⟨x, hx, ho⟩
    obtain ⟨x, hx, rfl⟩ := key j hj
    exact h x hx 0 (by omega)
  · have hm : (x.name != "_", x.type, x.offset) ∈ [(true, 4, 0), (true, 4, 1), (true, 51, 2)] := counterFields ▸ List.mem_map.2 ⟨x, hx, rfl⟩
    simp only [List.mem_cons, Prod.mk.injEq, List.not_mem_nil, or_false] at hm
    exact h _ (by omega)

theorem eq_timers (d : Nat) (a b : MemV) (w : World) : EqRow Tryd.prog (d + 3) 54 32 (fun j => a.cell (5 + j)) (fun j => b.cell (5 + j)) w := by
  refine row_array (P := Tryd.prog) w (d := d + 2) (len := 16) (m := 2) (e := 53) (by omega) Tryd.underlying54 (i := (Tryd.prog.info? 53).getD default) (by kernel_rfl) (by kernel_rfl) (fun i hi => ?_)
  refine part_row (P := Tryd.prog) w (by kernel_rfl) (by kernel_rfl) (by omega) ?_
  refine eq_timer d _ _ w (a := a.tD i) (c := a.tC i) (a' := b.tD i) (c' := b.tC i) ?_ ?_ ?_ ?_
  · rw [show 5 + (i * 2 + 0) = 5 + i * 2 by omega]; exact a.cell_tD i hi
  · rw [show 5 + (i * 2 + 1) = 5 + i * 2 + 1 by omega]; exact a.cell_tC i hi
  · rw [show 5 + (i * 2 + 0) = 5 + i * 2 by omega]; exact b.cell_tD i hi
  · rw [show 5 + (i * 2 + 1) = 5 + i * 2 + 1 by omega]; exact b.cell_tC i hi
theorem eq_counters (d : Nat) (a b : MemV) (w : World) : EqRow Tryd.prog (d + 3) 57 48 (fun j => a.cell (37 + j)) (fun j => b.cell (37 + j)) w := by
  refine row_array (P := Tryd.prog) w (d := d + 2) (len := 16) (m := 3) (e := 56) (by omega) Tryd.underlying57 (i := (Tryd.prog.info? 56).getD default) (by kernel_rfl) (by kernel_rfl) (fun i hi => ?_)
  refine part_row (P := Tryd.prog) w (by kernel_rfl) (by kernel_rfl) (by omega) ?_
  refine eq_counter d _ _ w (a := a.cD i) (b := a.cL i) (c := a.cC i) (a' := b.cD i) (b' := b.cL i) (c' := b.cC i) ?_ ?_ ?_ ?_ ?_ ?_
  · rw [show 37 + (i * 3 + 0) = 37 + i * 3 by omega]; exact a.cell_cD i hi
  · rw [show 37 + (i * 3 + 1) = 37 + i * 3 + 1 by omega]; exact a.cell_cL i hi
  · rw [show 37 + (i * 3 + 2) = 37 + i * 3 + 2 by omega]; exact a.cell_cC i hi
  · rw [show 37 + (i * 3 + 0) = 37 + i * 3 by omega]; exact b.cell_cD i hi
  · rw [show 37 + (i * 3 + 1) = 37 + i * 3 + 1 by omega]; exact b.cell_cL i hi
  · rw [show 37 + (i * 3 + 2) = 37 + i * 3 + 2 by omega]; exact b.cell_cC i hi
theorem eq_ints (d : Nat) (a b : MemV) (w : World) : EqRow Tryd.prog (d + 3) 58 32 (fun j => a.cell (85 + j)) (fun j => b.cell (85 + j)) w := by
  refine row_array (P := Tryd.prog) w (d := d + 2) (len := 32) (m := 1) (e := 32) (by omega) Tryd.underlying58 (i := (Tryd.prog.info? 32).getD default) (by kernel_rfl) (by kernel_rfl) (fun i hi => ?_)
  refine part_int (P := Tryd.prog) w (d := d + 1) (k := .i16) (a := a.d i) (c := b.d i) (by kernel_rfl) Tryd.underlying32 (by omega) ?_ ?_
  · rw [Nat.mul_one]; exact a.cell_d i hi
  · rw [Nat.mul_one]; exact b.cell_d i hi
theorem eq_reals (d : Nat) (a b : MemV) (w : World) (ha : ∀ i, a.r i = 0) (hb : ∀ i, b.r i = 0) : EqRow Tryd.prog (d + 3) 59 16 (fun j => a.cell (117 + j)) (fun j => b.cell (117 + j)) w := by
  refine row_array (P := Tryd.prog) w (d := d + 2) (len := 16) (m := 1) (e := 35) (by omega) Tryd.underlying59 (i := (Tryd.prog.info? 35).getD default) (by kernel_rfl) (by kernel_rfl) (fun i hi => ?_)
  refine part_zero (P := Tryd.prog) w (d := d + 1) (by kernel_rfl) Tryd.underlying35 (by omega) ?_ ?_
  · rw [Nat.mul_one, a.cell_r i hi, ha]
  · rw [Nat.mul_one, b.cell_r i hi, hb]

theorem eql_mem (a b : MemV) (w : World) (ha : ∀ i, a.r i = 0) (hb : ∀ i, b.r i = 0) :
    ∃ q : Bool, (Op.equalIn 10000 61 (.agg a.row) (.agg b.row)).run Tryd.prog w = .ok q w ∧ (q = true ↔ ∀ j, j < 136 → a.cell j = b.cell j) := by
  show EqRow Tryd.prog (9999 + 1) 61 136 a.cell b.cell w
  refine row_struct (P := Tryd.prog) w (d := 9999) (fun x => ∀ j, j < fieldN x.offset → a.cell (x.offset + j) = b.cell (x.offset + j)) (by kernel_rfl) (by kernel_rfl) (fun x hx => ?_) ⟨fun h j hj => ?_, fun h x hx j hj => ?_⟩
  · have hm := memFields ▸ List.mem_map.2 ⟨x, hx, rfl⟩
    simp only [List.mem_cons, Prod.mk.injEq, List.not_mem_nil, or_false] at hm
    have pi : ∀ {t : TypeId} {off : Nat} {k : IntKind} {y z : Int}, (isAgg t).run Tryd.prog w = .ok false w → Tryd.prog.underlying t = some (.int k) → off < 136 → a.cell off = .int k y → b.cell off = .int k z → EqPart Tryd.prog 9999 (rowOf a.cell 136) (rowOf b.cell 136) t off w (∀ j, j < 1 → a.cell (off + j) = b.cell (off + j)) :=
      fun h1 h2 h3 h4 h5 => part_int (P := Tryd.prog) w (d := 9998) h1 h2 h3 h4 h5
    have pb : ∀ {t : TypeId} {off : Nat} {y z : Bool}, (isAgg t).run Tryd.prog w = .ok false w → Tryd.prog.underlying t = some .bool → off < 136 → a.cell off = .bool y → b.cell off = .bool z → EqPart Tryd.prog 9999 (rowOf a.cell 136) (rowOf b.cell 136) t off w (∀ j, j < 1 → a.cell (off + j) = b.cell (off + j)) :=
      fun h1 h2 h3 h4 h5 => part_bool (P := Tryd.prog) w (d := 9998) h1 h2 h3 h4 h5
    rcases hm with ⟨e1, e2, e3⟩ | ⟨e1, e2, e3⟩ | ⟨e1, e2, e3⟩ | ⟨e1, e2, e3⟩ | ⟨e1, e2, e3⟩ | ⟨e1, e2, e3⟩ | ⟨e1, e2, e3⟩ | ⟨e1, e2, e3⟩ | ⟨e1, e2, e3⟩ | ⟨e1, e2, e3⟩ | ⟨e1, e2, e3⟩ | ⟨e1, e2, e3⟩
    all_goals (refine ⟨by simpa using e1, ?_⟩; rw [e2, e3])
    · exact pi (by kernel_rfl) Tryd.underlying49 (by omega) a.cell_x b.cell_x
    · exact pi (by kernel_rfl) Tryd.underlying49 (by omega) a.cell_y b.cell_y
    · exact pi (by kernel_rfl) Tryd.underlying50 (by omega) a.cell_m b.cell_m
    · exact pi (by kernel_rfl) Tryd.underlying51 (by omega) a.cell_s b.cell_s
    · exact pi (by kernel_rfl) Tryd.underlying49 (by omega) a.cell_e b.cell_e
    · exact part_row (P := Tryd.prog) w (m := 32) (by kernel_rfl) (by kernel_rfl) (by omega) (eq_timers 9996 a b w)
    · exact part_row (P := Tryd.prog) w (m := 48) (by kernel_rfl) (by kernel_rfl) (by omega) (eq_counters 9996 a b w)
    · exact part_row (P := Tryd.prog) w (m := 32) (by kernel_rfl) (by kernel_rfl) (by omega) (eq_ints 9996 a b w)
    · exact part_row (P := Tryd.prog) w (m := 16) (by kernel_rfl) (by kernel_rfl) (by omega) (eq_reals 9996 a b w ha hb)
    · exact pi (by kernel_rfl) Tryd.underlying49 (by omega) a.cell_time b.cell_time
    · exact pb (by kernel_rfl) Tryd.underlying4 (by omega) a.cell_ran b.cell_ran
    · exact pb (by kernel_rfl) Tryd.underlying4 (by omega) a.cell_fault b.cell_fault
  · have key : ∀ o, o = 0 ∨ o = 1 ∨ o = 2 ∨ o = 3 ∨ o = 4 ∨ o = 5 ∨ o = 37 ∨ o = 85 ∨ o = 117 ∨ o = 133 ∨ o = 134 ∨ o = 135 → ∃ x ∈ (Tryd.prog.fieldsOf 61).toList, x.offset = o := by
      intro o ho
      have hm : ∃ p ∈ (Tryd.prog.fieldsOf 61).toList.map (fun f => (f.name != "_", f.type, f.offset)), p.2.2 = o := by
        rw [memFields]
        rcases ho with rfl | rfl | rfl | rfl | rfl | rfl | rfl | rfl | rfl | rfl | rfl | rfl <;> simp
      obtain ⟨p, hp, ho⟩ := hm
      obtain ⟨x, hx, rfl⟩ := List.mem_map.1 hp
      exact ⟨x, hx, ho⟩
    have use : ∀ o n, (o = 0 ∨ o = 1 ∨ o = 2 ∨ o = 3 ∨ o = 4 ∨ o = 5 ∨ o = 37 ∨ o = 85 ∨ o = 117 ∨ o = 133 ∨ o = 134 ∨ o = 135) → fieldN o = n → ∀ i, i < n → a.cell (o + i) = b.cell (o + i) := by
      intro o n ho hn i hi
      obtain ⟨x, hx, rfl⟩ := key o ho
      exact h x hx i (by omega)
    by_cases h5 : j < 5
    · exact use j 1 (by omega) (by unfold fieldN; rw [if_neg (by omega), if_neg (by omega), if_neg (by omega), if_neg (by omega)]) 0 (by omega)
    by_cases h37 : j < 37
    · have := use 5 32 (by omega) rfl (j - 5) (by omega)
      rwa [show 5 + (j - 5) = j by omega] at this
    by_cases h85 : j < 85
    · have := use 37 48 (by omega) rfl (j - 37) (by omega)
      rwa [show 37 + (j - 37) = j by omega] at this
    by_cases h117 : j < 117
    · have := use 85 32 (by omega) rfl (j - 85) (by omega)
      rwa [show 85 + (j - 85) = j by omega] at this
    by_cases h133 : j < 133
    · have := use 117 16 (by omega) rfl (j - 117) (by omega)
      rwa [show 117 + (j - 117) = j by omega] at this
    · exact use j 1 (by omega) (by unfold fieldN; rw [if_neg (by omega), if_neg (by omega), if_neg (by omega), if_neg (by omega)]) 0 (by omega)
  · have hm := memFields ▸ List.mem_map.2 ⟨x, hx, rfl⟩
    simp only [List.mem_cons, Prod.mk.injEq, List.not_mem_nil, or_false] at hm
    refine h _ ?_
    unfold fieldN at hj
    rcases hm with ⟨-, -, e⟩ | ⟨-, -, e⟩ | ⟨-, -, e⟩ | ⟨-, -, e⟩ | ⟨-, -, e⟩ | ⟨-, -, e⟩ | ⟨-, -, e⟩ | ⟨-, -, e⟩ | ⟨-, -, e⟩ | ⟨-, -, e⟩ | ⟨-, -, e⟩ | ⟨-, -, e⟩ <;> rw [e] at hj ⊢ <;> simp at hj <;> omega

end Go.Proofs.YtdhoimjkgicneaaDoor
