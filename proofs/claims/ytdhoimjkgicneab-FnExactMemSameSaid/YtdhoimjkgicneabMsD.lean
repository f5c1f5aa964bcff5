/- The program's MemSame: two memories are one. -/
import Derived.Test.YtdhoimjkgicneabMsB
import Derived.Test.YtdhoimjkgicneabMsC
import Derived.Test.YtdhoimjkgicneabRegB
import Derived.Test.YtdhoimjkgicneabMtA
import Derived.Deep.Cut
namespace Go.Proofs.Ytdhoimjkgicneab
open Go Go.RowKit Ieee

theorem ord_nan {x : Nat} (h : (FloatKind.f64.format.order x x != some .eq) = true) : ∃ s t, double.read x = .nan s t := by
  rcases read_cases x with ⟨s, m, k, g⟩ | ⟨s, g⟩ | g
  · exfalso
    have e : FloatKind.f64.format.order x x = some .eq := by
      show double.order x x = _
      simp [Format.order, g.read, Datum.order]
    rw [e] at h; cases h
  · exfalso
    have e : FloatKind.f64.format.order x x = some .eq := by
      show double.order x x = _
      simp [Format.order, g, Datum.order]
    rw [e] at h; cases h
  · exact g
theorem nan_ord {x : Nat} (h : ∃ s t, double.read x = .nan s t) : (FloatKind.f64.format.order x x != some .eq) = true := by
  obtain ⟨s, t, h⟩ := h
  have e : FloatKind.f64.format.order x x = none := by
    show double.order x x = _
    simp [Format.order, h, Datum.order]
  rw [e]; rfl

theorem canon_same {x y : Nat} (hx : x < 18446744073709551616) (hy : y < 18446744073709551616) : canonW x = canonW y ↔ Same x y := by
  have hn : (FloatKind.f64.format.order 9221120237041090561 9221120237041090561 != some .eq) = true := by decide +kernel
  unfold canonW
  constructor
  · intro h
    split at h
    · rename_i h1
      split at h
      · rename_i h2
        exact Or.inl ⟨ord_nan h1, ord_nan h2⟩
      · rename_i h2
        rw [← h, hn] at h2
        exact absurd rfl h2
    · rename_i h1
      split at h
      · rw [h, hn] at h1
        exact absurd rfl h1
      · rw [h]; exact same_refl y
  · intro h
    rcases same_word hx hy h with rfl | ⟨h1, h2⟩
    · rfl
    · rw [if_pos (nan_ord h1), if_pos (nan_ord h2)]

/-- Cell by cell, real numbers apart. -/
theorem same_cells {a b : MemV} : (∀ j, j < 136 → ({ a with r := fun _ => 0 } : MemV).cell j = ({ b with r := fun _ => 0 } : MemV).cell j) ∧ (∀ i, i < 16 → Same (a.r i) (b.r i)) ↔ SameM a b := by
  constructor
  · rintro ⟨h, hr⟩
    have nat : ∀ {k : IntKind} {x y : Nat}, Value.int k (x : Int) = .int k (y : Int) → x = y := by
      intro k x y e
      have := (Value.int.inj e).2
      omega
    refine ⟨nat (h 0 (by omega)), nat (h 1 (by omega)), nat (h 2 (by omega)), nat (h 3 (by omega)), nat (h 4 (by omega)), fun i hi => ?_, fun i hi => ?_, fun i hi => ?_, fun i hi => ?_, fun i hi => ?_, fun i hi => ?_, hr, nat (h 133 (by omega)), Value.bool.inj (h 134 (by omega)), Value.bool.inj (h 135 (by omega))⟩
    · have := h (5 + i * 2) (by omega)
      rw [MemV.cell_tD _ i hi, MemV.cell_tD _ i hi] at this
      exact Value.bool.inj this
    · have := h (5 + i * 2 + 1) (by omega)
      rw [MemV.cell_tC _ i hi, MemV.cell_tC _ i hi] at this
      exact nat this
    · have := h (37 + i * 3) (by omega)
      rw [MemV.cell_cD _ i hi, MemV.cell_cD _ i hi] at this
      exact Value.bool.inj this
    · have := h (37 + i * 3 + 1) (by omega)
      rw [MemV.cell_cL _ i hi, MemV.cell_cL _ i hi] at this
      exact Value.bool.inj this
    · have := h (37 + i * 3 + 2) (by omega)
      rw [MemV.cell_cC _ i hi, MemV.cell_cC _ i hi] at this
      exact nat this
    · have := h (85 + i) (by omega)
      rw [MemV.cell_d _ i hi, MemV.cell_d _ i hi] at this
      exact (Value.int.inj this).2
  · intro h
    refine ⟨fun j hj => ?_, h.r⟩
    unfold MemV.cell
    simp only [h.x, h.y, h.m, h.s, h.e, h.time, h.ran, h.fault]
    by_cases h37 : j < 37
    · by_cases h5 : j < 5
      · have : j = 0 ∨ j = 1 ∨ j = 2 ∨ j = 3 ∨ j = 4 := by omega
        rcases this with rfl | rfl | rfl | rfl | rfl <;> rfl
      · rw [h.tD ((j - 5) / 2) (by omega), h.tC ((j - 5) / 2) (by omega)]
        simp only [h37, if_true]
    by_cases h85 : j < 85
    · rw [h.cD ((j - 37) / 3) (by omega), h.cL ((j - 37) / 3) (by omega), h.cC ((j - 37) / 3) (by omega)]
      simp only [h37, h85, if_true, if_false]
    by_cases h117 : j < 117
    · rw [h.d (j - 85) (by omega)]
      simp only [h37, h85, h117, if_true, if_false]
    · simp only [h37, h85, h117, if_false]

theorem eql_words_all (f g : Nat → Int) (w0 : World) : ∃ b : Bool, (∀ w, (binOp .neq 107 (.agg (rowOf (fun i => .int .u64 (f i)) 16)) (.agg (rowOf (fun i => .int .u64 (g i)) 16))).run Try.prog w = .ok (.bool (!b)) w) ∧ (b = true ↔ ∀ i, i < 16 → f i = g i) := by
  obtain ⟨b, h1, h2⟩ := eql_words f g w0
  refine ⟨b, fun w => ?_, h2⟩
  obtain ⟨b', g1, g2⟩ := eql_words f g w
  have e : b' = b := by rw [Bool.eq_iff_iff, g2, h2]
  subst e
  rw [run_neq_struct, g1]
  rfl

/-- Two memories that came in. -/
theorem two_mems (a b : MemV) (w : World) (t1 t2 : TypeId) :
    MemAt w.heap.size a ((w.alloc (.cells a.row t1)).alloc (.cells b.row t2)) ∧ MemAt (w.heap.size + 1) b ((w.alloc (.cells a.row t1)).alloc (.cells b.row t2)) ∧ Below w.heap.size w ((w.alloc (.cells a.row t1)).alloc (.cells b.row t2)) := by
  have h1 : ∀ (w : World) (o : Obj), Below w.heap.size w (w.alloc o) := fun w o => (Below.refl _ _).alloc (Nat.le_refl _) _
  refine ⟨(MemAt.alloc a w t1).below (h1 _ _) (by simp), ?_, ((Below.refl w.heap.size w).alloc (Nat.le_refl _) _).alloc (by simp) _⟩
  have := MemAt.alloc b (w.alloc (.cells a.row t1)) t2
  simpa using this

/-- What is said of two memories. -/
def SameOf (a b : MemV) (w : World) (e : Ending) (w' : World) : Prop := ∃ q : Bool, e = .returned (.bool q) ∧ (q = true ↔ SameM a b) ∧ Below w.heap.size w w'

theorem zReals : ∀ w, (zeroValue 55).run Try.prog w = .ok (.agg (rowOf (fReal fun _ => 0) 16)) w := fun _ => by kernel_rfl

theorem cell_noreal (a : MemV) : ∀ i, i < 136 → (i < 117 ∨ 117 + 16 ≤ i) → ({ a with r := fun _ => 0 } : MemV).cell i = a.cell i := by
  intro i hi h
  unfold MemV.cell
  by_cases h133 : i < 133
  · have h117 : i < 117 := by omega
    simp only [h117, if_true]
  · simp only [h133, if_false]

set_option maxRecDepth 100000 in
set_option maxHeartbeats 2000000 in
theorem impl_same (a b : MemV) (ha : a.Ok) (hb : b.Ok) (w : World) : Calls Try.prog 24 #[.agg a.row, .agg b.row] w (SameOf a b w) := by
  obtain ⟨A, B, BW⟩ := two_mems a b w 57 57
  go_enter Try.func24, Try.ntmps24
  go_wp2_with fail
  generalize ((w.alloc (.cells a.row 57)).alloc (.cells b.row 57)) = w0 at A B BW ⊢
  obtain ⟨q1, Q1, Q2⟩ := eql_words_all (fun i => canonW (a.r i)) (fun i => canonW (b.r i)) w0
  refine wp_region_belowM (by kernel_rfl) (by kernel_rfl) ?_
  quiet_step (exact fun _ => rfl)
  refine quiet_load (t := 55) (v := .agg (rowOf (fReal a.r) 16)) rfl rfl rfl (fun w' hw' => load_row aReal sReal (A.below hw' A.z).reals) ?_
  refine wpQuiet_step (fun K hK => ?_)
  go_simp
  refine ⟨.agg (rowOf (fun i => .int .u64 (canonW (a.r i))) 16), fun w' hw' => (real_bits a.r w').mono fun e w'' ⟨he, hb⟩ => ⟨he, hw'.trans (hb.mono hw'.size)⟩, hK _ ?_⟩
  clear hK K
  quiet_step (exact fun _ => rfl)
  refine quiet_load (t := 55) (v := .agg (rowOf (fReal b.r) 16)) rfl rfl rfl (fun w' hw' => load_row aReal sReal (B.below hw' B.z).reals) ?_
  refine wpQuiet_step (fun K hK => ?_)
  go_simp
  refine ⟨.agg (rowOf (fun i => .int .u64 (canonW (b.r i))) 16), fun w' hw' => (real_bits b.r w').mono fun e w'' ⟨he, hb⟩ => ⟨he, hw'.trans (hb.mono hw'.size)⟩, hK _ ?_⟩
  clear hK K
  refine quiet_bin (t := 107) rfl rfl rfl rfl (fun w => run_eqGuard_agg w _ _ _ _ _ _ (by kernel_rfl)) Q1 ?_
  refine wpQuiet_nil ?_
  intro w1 hw1
  have A1 := A.below hw1 A.z
  have B1 := B.below hw1 B.z
  have BW1 := BW.trans (hw1.mono BW.size)
  have QR : q1 = true ↔ ∀ i, i < 16 → Same (a.r i) (b.r i) := by
    rw [Q2]
    constructor
    · intro h i hi
      have := h i hi
      exact (canon_same (ha.r i) (hb.r i)).1 (by omega)
    · intro h i hi
      have := (canon_same (ha.r i) (hb.r i)).2 (h i hi)
      omega
  clear A B BW Q1 Q2 hw1
  cases q1 with
  | false =>
    have S : Hid (¬ SameM a b) := fun h => by have := QR.2 h.r; cases this
    clear QR
    go_wp2_with fail
    go_ret
    exact ⟨false, rfl, ⟨fun h => by (cases h), fun h => absurd h S.out⟩, BW1⟩
  | true =>
    have A2 := A1.putRow (o := 117) (n := 16) (v' := { a with r := fun _ => 0 }) (f' := fReal fun _ => 0) (by omega) (fun k hk => MemV.cell_r _ k hk) (cell_noreal a)
    have B2 := B1.other (c := w.heap.size) (o := 117) (vs := (rowOf (fReal fun _ => 0) 16).toList) (by omega)
    have A3 := A2.other (c := w.heap.size + 1) (o := 117) (vs := (rowOf (fReal fun _ => 0) 16).toList) (by omega)
    have B3 := B2.putRow (o := 117) (n := 16) (v' := { b with r := fun _ => 0 }) (f' := fReal fun _ => 0) (by omega) (fun k hk => MemV.cell_r _ k hk) (cell_noreal b)
    have BW3 := setCells_below (rowOf (fReal fun _ => 0) 16).toList (w.heap.size + 1) 117 (setCells_below (rowOf (fReal fun _ => 0) 16).toList w.heap.size 117 BW1 (by omega)) (by omega)
    have L1 := store_row (fReal fun _ => 0) sReal (fun k _ => rfl) A1.reals
    have L2 := store_row (fReal fun _ => 0) sReal (fun k _ => rfl) B2.reals
    have QS : Hid (∀ i, i < 16 → Same (a.r i) (b.r i)) := QR.1 rfl
    obtain ⟨z, hz⟩ : ∃ z : Array Value, z = rowOf (fReal fun _ => 0) 16 := ⟨_, rfl⟩
    have zr : ∀ w, (zeroValue 55).run Try.prog w = .ok (.agg z) w := hz ▸ zReals
    rw [← hz] at L1 L2 A3 B3 BW3
    clear A1 B1 A2 B2 QR BW1 hz
    go_upto_region 3 with fail
    go_upto_region 4 with (first | (refine list_store (t := 55) (x := .pointer (some ⟨w.heap.size, 117, none⟩)) (u := .agg z) rfl rfl rfl rfl L1 ?_) | (refine list_store (t := 55) (x := .pointer (some ⟨w.heap.size + 1, 117, none⟩)) (u := .agg z) rfl rfl rfl rfl L2 ?_))
    clear L1 L2 zr
    generalize ((w1.setCells w.heap.size 117 z.toList).setCells (w.heap.size + 1) 117 z.toList) = w3 at A3 B3 BW3 ⊢
    obtain ⟨q, E1, E2⟩ := eql_mem { a with r := fun _ => 0 } { b with r := fun _ => 0 } w3 (fun _ => rfl) (fun _ => rfl)
    have E3 : q = true ↔ SameM a b := by
      rw [E2, ← same_cells]
      exact ⟨fun h => ⟨h, QS.out⟩, fun h => h.1⟩
    obtain ⟨ra, hra⟩ : ∃ ra : Array Value, ra = ({ a with r := fun _ => 0 } : MemV).row := ⟨_, rfl⟩
    obtain ⟨rb, hrb⟩ : ∃ rb : Array Value, rb = ({ b with r := fun _ => 0 } : MemV).row := ⟨_, rfl⟩
    have L3 : (Instr.loadAt 57 (.pointer (some ⟨w.heap.size, 0, none⟩))).run Try.prog w3 = .ok (.agg ra) w3 := hra ▸ load_mem A3
    have L4 : (Instr.loadAt 57 (.pointer (some ⟨w.heap.size + 1, 0, none⟩))).run Try.prog w3 = .ok (.agg rb) w3 := hrb ▸ load_mem B3
    have L5 : (binOp .eql 57 (.agg ra) (.agg rb)).run Try.prog w3 = .ok (.bool q) w3 := by
      rw [hra, hrb, run_eql_struct, E1]
      rfl
    have HS : Hid (SameOf a b w (.returned (.bool q)) w3) := ⟨q, rfl, E3, BW3⟩
    clear E1 E2 E3 A3 B3 BW3 hra hrb QS ha hb
    go_wp2_with (first | (refine list_load (t := 57) (x := .pointer (some ⟨w.heap.size, 0, none⟩)) rfl rfl rfl L3 ?_) | (refine list_load (t := 57) (x := .pointer (some ⟨w.heap.size + 1, 0, none⟩)) rfl rfl rfl L4 ?_) | (refine list_bin (t := 57) rfl rfl rfl rfl (run_eqGuard_agg _ _ _ _ _ _ _ (by kernel_rfl)) L5 ?_))
    go_ret
    exact HS.out

end Go.Proofs.Ytdhoimjkgicneab
