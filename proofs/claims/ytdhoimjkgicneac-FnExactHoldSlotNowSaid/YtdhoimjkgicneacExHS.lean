/- At every store the program's HoldSlotNow answers as the specification's: the law, walked. -/
import Derived.Test.YtdhoimjkgicneacHolD
import Derived.Test.YtdhoimjkgicneacHelD
namespace Go.Proofs.Ytdhoimjkgicneac
open Go Go.RowKit

theorem op_loadH {o : Oper} {a : Act} {w : World} {K : Act → World → Prop} {Q : Exit → Act → World → Prop} {t : TypeId} {p : Operand} {u : Value} (ho : o.op = .load t p)
    (h : (Instr.loadAt t (a.eval p)).run Try.prog w = .ok u w) (hK : K (a.put o.dst u) w) : o.wp Try.prog a w K Q := by
  have e : (execOp a.eval o).run Try.prog w = .ok (.value u) w := by
    simp only [execOp, ho, Sem.run_bind, h, Result.andThen, Sem.run_pure]
  unfold Oper.wp
  rw [e]
  exact hK
theorem list_loadH {ops : Array Oper} {Q : Exit → Act → World → Prop} {rest : List Oper} {o : Oper} {a : Act} {w : World} {t : TypeId} {p : Operand} {u x : Value}
    (ho : o.op = .load t p) (hx : a.eval p = x) (hg : Region.wanted o (yielded ops a.tmps) = true)
    (h : (Instr.loadAt t x).run Try.prog w = .ok u w) (hK : wpList Try.prog ops Q rest (a.put o.dst u) w) : wpList Try.prog ops Q (o :: rest) a w := by
  rw [wpList, if_pos hg]
  subst hx
  exact .inl (op_loadH ho h hK)

/-- A store's copy is a store. -/
theorem rom_at {m t m' t' : Nat} {xs ys : List Nat} {oa ob : Value} {w : World} (hm : m ≤ 255) (ht : t ≤ 255) (hm' : m' ≤ 255) (ht' : t' ≤ 255) (hx : ∀ x ∈ xs, x ≤ 255) (hy : ∀ x ∈ ys, x ≤ 255) (lx : xs.length ≤ 2000000) (ly : ys.length ≤ 2000000)
    (ha : BytesAt oa xs w) (hb : BytesAt ob ys w) : RomAt (.agg #[.int .u8 (m : Int), .int .u8 (t : Int), oa, .int .u8 (m' : Int), .int .u8 (t' : Int), ob]) ⟨⟨m, t, xs⟩, ⟨m', t', ys⟩⟩ w :=
  ⟨⟨hm, ht, ⟨hx, lx⟩, hm', ht', ⟨hy, ly⟩⟩, oa, ob, rfl, ha, hb⟩

theorem load_romL {b : Nat} {c : Array Value} {w : World} (hs : c.size = 6) (h : ∀ k u, c[k]? = some u → w.cell? ⟨b, k, none⟩ = some u) : (Instr.loadAt 26 (.pointer (some ⟨b, 0, none⟩))).run Try.prog w = .ok (.agg c) w := by
  have ha : (isAgg 26).run Try.prog w = .ok true w := by kernel_rfl
  have hz : (sizeOf 26).run Try.prog w = .ok 6 w := by kernel_rfl
  have hl : (loadCells ⟨b, 0, none⟩ 6).run Try.prog w = .ok c w := by
    have := run_loadCells_list (P := Try.prog) w ⟨b, 0, none⟩ c.toList (fun j u hu => by
      rw [addr_add, Nat.zero_add]
      exact h j u (by simpa using hu))
    simpa [hs] using this
  simp only [Instr.loadAt, Instr.sureAddr, Sem.run_bind, Sem.run_pure, Result.andThen, loadVar, ha, hz, if_true, hl]
theorem load_romI {b : Nat} {c : Array Value} {w : World} (hs : c.size = 6) (h : ∀ k u, c[k]? = some u → w.cell? ⟨b, k, none⟩ = some u) : (Instr.loadAt 32 (.pointer (some ⟨b, 0, none⟩))).run Try.prog w = .ok (.agg c) w := by
  have ha : (isAgg 32).run Try.prog w = .ok true w := by kernel_rfl
  have hz : (sizeOf 32).run Try.prog w = .ok 6 w := by kernel_rfl
  have hl : (loadCells ⟨b, 0, none⟩ 6).run Try.prog w = .ok c w := by
    have := run_loadCells_list (P := Try.prog) w ⟨b, 0, none⟩ c.toList (fun j u hu => by
      rw [addr_add, Nat.zero_add]
      exact h j u (by simpa using hu))
    simpa [hs] using this
  simp only [Instr.loadAt, Instr.sureAddr, Sem.run_bind, Sem.run_pure, Result.andThen, loadVar, ha, hz, if_true, hl]

set_option maxRecDepth 100000 in
set_option maxHeartbeats 1600000 in
theorem law_args (m t m' t' : Nat) (d d' : Value) (xs ys : List Nat) (w : World) (hm : m ≤ 255) (ht : t ≤ 255) (hm' : m' ≤ 255) (ht' : t' ≤ 255) (hx : ∀ x ∈ xs, x ≤ 255) (hy : ∀ x ∈ ys, x ≤ 255) (h : ByteArg d xs w) (h' : ByteArg d' ys w) (lx : xs.length ≤ 9223372036854775807) (ly : ys.length ≤ 9223372036854775807) :
    Calls Try.prog 5 #[.agg #[.int .u8 (m : Int), .int .u8 (t : Int), d, .int .u8 (m' : Int), .int .u8 (t' : Int), d']] w fun e w' => e = .returned (.bool true) ∧ Below w.heap.size w w' := by
  have HA : Hid (ByteArg d xs w ∧ ByteArg d' ys w) := ⟨h, h'⟩
  obtain ⟨ad, cd, rfl, -⟩ := h
  obtain ⟨ad', cd', rfl, -⟩ := h'
  obtain ⟨W, hW⟩ : ∃ W, W = w.alloc (.cells #[.int .u8 (m : Int), .int .u8 (t : Int), .slice ad xs.length cd, .int .u8 (m' : Int), .int .u8 (t' : Int), .slice ad' ys.length cd'] 26) := ⟨_, rfl⟩
  have b0 : Below w.heap.size w W := by rw [hW]; exact (Below.refl w.heap.size w).alloc (Nat.le_refl _) _
  have hz : W.heap.size = w.heap.size + 1 := by rw [hW]; simp
  have LB : ∀ w', Below W.heap.size W w' → (Instr.loadAt 26 (.pointer (some ⟨w.heap.size, 0, none⟩))).run Try.prog w' = .ok (.agg #[.int .u8 (m : Int), .int .u8 (t : Int), .slice ad xs.length cd, .int .u8 (m' : Int), .int .u8 (t' : Int), .slice ad' ys.length cd']) w' := fun w' hw' => load_romL rfl fun k u hu => (hw'.cell (p := ⟨w.heap.size, k, none⟩) (by show w.heap.size < _; omega)).trans (by rw [hW]; exact cell_lastH rfl hu)
  have S := sz_rom m t m' t' ad ad' xs.length cd ys.length cd' 1048576 W lx ly (by omega) (by omega)
  have L0 := LB W (Below.refl _ _)
  rw [hW] at L0
  go_enter Try.func5, Try.ntmps5
  go_wp2_with (refine list_loadH (t := 26) (x := .pointer (some ⟨w.heap.size, 0, none⟩)) rfl rfl rfl L0 ?_)
  rw [← hW]
  clear hW L0
  refine S.mono ?_
  rintro e w1 ⟨⟨z, rfl, hzl⟩, b1⟩
  clear S
  have HB : Hid (Below w.heap.size w W ∧ W.heap.size = w.heap.size + 1) := ⟨b0, hz⟩
  clear b0 hz
  by_cases hneg : z < 0
  · go_wp2_with fail
    go_ret
    exact ⟨rfl, HB.out.1.trans (b1.mono HB.out.1.size)⟩
  · have hl := hzl (by omega)
    have TR : ∀ w', Below W.heap.size W w' → Calls Try.prog 13 #[.agg #[.int .u8 (m : Int), .int .u8 (t : Int), .slice ad xs.length cd, .int .u8 (m' : Int), .int .u8 (t' : Int), .slice ad' ys.length cd']] w' fun e w'' => ∃ oa ob, e = .returned (.agg #[.int .u8 (m : Int), .int .u8 (t : Int), oa, .int .u8 (m' : Int), .int .u8 (t' : Int), ob]) ∧ Own w'.heap.size oa xs w'' ∧ Own w'.heap.size ob ys w'' ∧ (∀ g, oa.ownBlock = some g → ob.ownBlock ≠ some g) ∧ Below w'.heap.size w' w'' := fun w' hw' => to_rom m t m' t' _ _ xs ys w' (HA.out.1.below (HB.out.1.trans (hw'.mono HB.out.1.size))) (HA.out.2.below (HB.out.1.trans (hw'.mono HB.out.1.size))) (by omega) (by omega)
    have RA : ∀ {oa ob w'}, BytesAt oa xs w' → BytesAt ob ys w' → RomAt (.agg #[.int .u8 (m : Int), .int .u8 (t : Int), oa, .int .u8 (m' : Int), .int .u8 (t' : Int), ob]) ⟨⟨m, t, xs⟩, ⟨m', t', ys⟩⟩ w' := fun ha hb => rom_at hm ht hm' ht' hx hy (by omega) (by omega) ha hb
    have ER : ∀ {d e d' e' w'}, BytesAt d xs w' → BytesAt e ys w' → BytesAt d' xs w' → BytesAt e' ys w' → Calls Try.prog 16 #[.agg #[.int .u8 (m : Int), .int .u8 (t : Int), d, .int .u8 (m' : Int), .int .u8 (t' : Int), e], .agg #[.int .u8 (m : Int), .int .u8 (t : Int), d', .int .u8 (m' : Int), .int .u8 (t' : Int), e']] w' fun r w'' => r = .returned (.bool true) ∧ Below w'.heap.size w' w'' := fun h1 h2 h3 h4 => eq_rom m t m' t' _ _ _ _ xs ys _ h1 h2 h3 h4 (by omega) (by omega)
    clear hx hy hzl hl lx ly
    have H1 : Hid (Below W.heap.size W w1) := b1
    have L1 := LB w1 b1
    clear b1
    go_wp2_with (refine list_loadH (t := 26) (x := .pointer (some ⟨w.heap.size, 0, none⟩)) rfl rfl rfl L1 ?_)
    clear L1
    refine (TR w1 H1.out).mono ?_
    rintro e w2 ⟨oa, ob, rfl, o1, o2, -, b2⟩
    have C1 := slot_spec _ _ w2 (RA o1.at o2.at)
    have H2 : Hid (Below W.heap.size W w2) := H1.out.trans (b2.mono H1.out.size)
    clear o1 o2 b2 H1
    go_wp2_with fail
    refine C1.mono ?_
    rintro e w3 ⟨rfl, b3⟩
    have H3 : Hid (Below W.heap.size W w3) := H2.out.trans (b3.mono H2.out.size)
    clear b3 C1 H2
    have L1 := LB w3 H3.out
    go_wp2_with (refine list_loadH (t := 26) (x := .pointer (some ⟨w.heap.size, 0, none⟩)) rfl rfl rfl L1 ?_)
    clear L1
    refine (TR w3 H3.out).mono ?_
    rintro e w4 ⟨pa, pb, rfl, o1, o2, -, b4⟩
    obtain ⟨V, hV⟩ : ∃ V, V = w4.alloc (.cells #[.int .u8 (m : Int), .int .u8 (t : Int), pa, .int .u8 (m' : Int), .int .u8 (t' : Int), pb] 32) := ⟨_, rfl⟩
    have bV : Below w4.heap.size w4 V := by rw [hV]; exact (Below.refl w4.heap.size w4).alloc (Nat.le_refl _) _
    have H4 : Hid (Below W.heap.size W V ∧ BytesAt pa xs V ∧ BytesAt pb ys V) := ⟨H3.out.trans ((b4.trans (bV.mono b4.size)).mono H3.out.size), o1.at.below bV (Nat.le_refl _), o2.at.below bV (Nat.le_refl _)⟩
    have LV : ∀ w', Below V.heap.size V w' → (Instr.loadAt 32 (.pointer (some ⟨w4.heap.size, 0, none⟩))).run Try.prog w' = .ok (.agg #[.int .u8 (m : Int), .int .u8 (t : Int), pa, .int .u8 (m' : Int), .int .u8 (t' : Int), pb]) w' := fun w' hw' => load_romI rfl fun k u hu => (hw'.cell (p := ⟨w4.heap.size, k, none⟩) (by show w4.heap.size < _; rw [hV]; simp)).trans (by rw [hV]; exact cell_lastH rfl hu)
    have C2 := slot_impl _ _ V (RA H4.out.2.1 H4.out.2.2)
    have L2 := LV V (Below.refl _ _)
    rw [hV] at L2
    obtain ⟨_, _, rfl⟩ := own_size o1
    obtain ⟨_, _, rfl⟩ := own_size o2
    clear o1 o2 b4 H3 bV
    go_wp2_with (refine list_loadH (t := 32) (x := .pointer (some ⟨w4.heap.size, 0, none⟩)) rfl rfl rfl L2 ?_)
    rw [← hV]
    clear hV L2
    refine C2.mono ?_
    rintro e w5 ⟨rfl, b5⟩
    have H5 : Hid (Below V.heap.size V w5) := b5
    clear b5 C2
    go_wp2_with fail
    have hS : Below V.heap.size V w5.drew := H5.out.drew
    refine wp_region_held (S := Below V.heap.size V) (by kernel_rfl) ?_
    refine held_load (fuel := 4) (i := 0) (t := 32) (v := .agg #[.int .u8 (m : Int), .int .u8 (t : Int), _, .int .u8 (m' : Int), .int .u8 (t' : Int), _]) rfl rfl rfl (by kernel_rfl) (by kernel_rfl) (by kernel_rfl) rfl (fun _ _ _ h => h) (fun w' hw' => LV w' hw') hS ?_
    go_simp
    refine held_load (fuel := 3) (i := 1) (t := 26) (v := .agg #[.int .u8 (m : Int), .int .u8 (t : Int), .slice ad xs.length cd, .int .u8 (m' : Int), .int .u8 (t' : Int), .slice ad' ys.length cd']) rfl rfl rfl (by kernel_rfl) (by kernel_rfl) (by kernel_rfl) rfl (fun _ _ _ h => h) (fun w' hw' => LB w' (H4.out.1.trans (hw'.mono H4.out.1.size))) hS ?_
    go_simp
    refine wpAnyH_ready (rs := [2]) (by kernel_rfl) (by simp) ?_
    refine AllReadyH.cons rfl (fun K hK => ?_) AllReadyH.nil
    go_simp
    refine (TR _ (H4.out.1.trans (hS.mono H4.out.1.size))).mono ?_
    rintro e w6 ⟨qa, qb, rfl, o1, o2, -, b6⟩
    have hS6 := hS.trans (b6.mono hS.size)
    have CE := ER (H4.out.2.1.below hS6 (Nat.le_refl _)) (H4.out.2.2.below hS6 (Nat.le_refl _)) o1.at o2.at
    refine hK.out _ _ hS6 (fun _ => ?_)
    clear hK K b6 o1 o2
    go_simp
    refine wpAnyH_ready (rs := [3]) (by kernel_rfl) (by simp) ?_
    refine AllReadyH.cons rfl (fun K hK => ?_) AllReadyH.nil
    go_simp
    refine CE.mono ?_
    rintro e w7 ⟨rfl, b7⟩
    have hS7 := hS6.trans (b7.mono hS6.size)
    refine hK.out _ _ hS7 (fun _ => ?_)
    clear hK K b7 CE
    go_simp
    refine held_any (fuel := 0) (i := 4) (v := .bool false) rfl (by kernel_rfl) (by kernel_rfl) (by kernel_rfl) rfl (fun _ _ _ h => h) (fun _ _ => by go_simp) hS7 ?_
    go_simp
    refine wpAnyH_done (by kernel_rfl) ?_ _
    go_wp2_with fail
    go_ret
    have bWV := H4.out.1.trans (hS7.mono H4.out.1.size)
    exact ⟨rfl, HB.out.1.trans (bWV.mono HB.out.1.size)⟩

theorem law (m t m' t' : Nat) (a a' : Option Addr) (n c n' c' : Nat) (w : World) (hm : m ≤ 255) (ht : t ≤ 255) (hm' : m' ≤ 255) (ht' : t' ≤ 255) (C : CodeAt (.slice a n c) w) (D : CodeAt (.slice a' n' c') w) (hn : n ≤ 9223372036854775807) (hn' : n' ≤ 9223372036854775807) :
    Calls Try.prog 5 #[.agg #[.int .u8 (m : Int), .int .u8 (t : Int), .slice a n c, .int .u8 (m' : Int), .int .u8 (t' : Int), .slice a' n' c']] w fun e w' => e = .returned (.bool true) ∧ Below w.heap.size w w' := by
  obtain ⟨xs, A, hx⟩ := code_bytes C
  obtain ⟨ys, B, hy⟩ := code_bytes D
  have lx : xs.length = n := by
    obtain ⟨a, cap, e, -⟩ := A
    simp only [Value.slice.injEq] at e
    omega
  have ly : ys.length = n' := by
    obtain ⟨a, cap, e, -⟩ := B
    simp only [Value.slice.injEq] at e
    omega
  exact law_args m t m' t' _ _ xs ys w hm ht hm' ht' hx hy A B (by omega) (by omega)

end Go.Proofs.Ytdhoimjkgicneac
