/- Texts of this proof laid together: RouA, DrP, PutP. -/
import Derived.Test.YtdhoimjkgicneaaDoorLot17
import Derived.Test.YtdhoimjkgicneaaDoorLot22
import Derived.Test.YtdhoimjkgicneaaDoorLot23
import Derived.Test.YtdhoimjkgicneaaDoorLot24
import Derived.Deep.Cut
import Derived.Test.YtdhoimjkgicneaaDoorLot12
/- The law that places are counted round, walked. -/
namespace Go.Proofs.YtdhoimjkgicneaaDoor
open Go Go.RowKit

theorem same_any (x : Nat) : SameF x x := by
  rcases order_self x with h | ⟨s, t, h⟩
  · exact Or.inr ⟨rfl, h⟩
  · exact Or.inl ⟨order_nan_left h, order_nan_left h⟩

theorem at_round (k n j : Int) : atZ k (n + j * szR k) = atZ k n := by
  unfold atZ
  split
  · rfl
  · rw [Int.add_mul_emod_self_right]

theorem mbit_round (v : MemV) {k n n' : Int} (h : atZ k n' = atZ k n) : mbit v k n' = mbit v k n := by unfold mbit; rw [h]
theorem whole_round (v : MemV) {k n n' : Int} (h : atZ k n' = atZ k n) (hk : k ≠ 11) : wholeZ v k n' = wholeZ v k n := by unfold wholeZ; rw [h, if_neg hk, if_neg hk]
theorem real_round (v : MemV) {k n n' : Int} (h : atZ k n' = atZ k n) (h1 : k ≠ 12) (h2 : k ≠ 13) : realX v k n' 0 = realX v k n 0 := by
  unfold realX
  rw [h]
  split
  · rfl
  · unfold argX
    simp only [if_neg h1, if_neg h2, ite_self]

/-- What is there behind the draw: a memory and an operand. -/
structure Drew (m : MemV) (k n p : Int) (q : Nat) (w wr : World) : Prop where
  M : MemAt q m wr
  G : ArgAt (q + 1) (.int .i64 k) (.int .i64 n) (.int .i64 p) wr
  b : Below w.heap.size w wr

theorem drew_of {m : MemV} {k n p : Int} {w w1 : World} (hb : Below w.heap.size w w1) (t1 t2 : TypeId) :
    MemAt w1.heap.size mem0 ((w1.alloc (.cells Tryd.zeroCells61 t1)).alloc (.cells #[.int .i64 0, .int .i64 0, .int .i64 0] t2)) ∧
    ArgAt (w1.heap.size + 1) (.int .i64 0) (.int .i64 0) (.int .i64 0) (((w1.alloc (.cells Tryd.zeroCells61 t1)).alloc (.cells #[.int .i64 0, .int .i64 0, .int .i64 0] t2)).setCells w1.heap.size 0 m.row.toList) ∧
    Drew m k n p w1.heap.size w ((((w1.alloc (.cells Tryd.zeroCells61 t1)).alloc (.cells #[.int .i64 0, .int .i64 0, .int .i64 0] t2)).setCells w1.heap.size 0 m.row.toList).setCells (w1.heap.size + 1) 0 [.int .i64 k, .int .i64 n, .int .i64 p]) := by
  rw [zero_row]
  have h1 : ∀ (w : World) (o : Obj), Below w.heap.size w (w.alloc o) := fun w o => (Below.refl _ _).alloc (Nat.le_refl _) _
  have Z := (MemAt.alloc mem0 w1 t1).below (h1 _ (.cells #[.int .i64 0, .int .i64 0, .int .i64 0] t2)) (by simp)
  have Y0 := ArgAt.alloc (.int .i64 0) (.int .i64 0) (.int .i64 0) (w1.alloc (.cells mem0.row t1)) t2
  rw [show (w1.alloc (.cells mem0.row t1)).heap.size = w1.heap.size + 1 by simp] at Y0
  have Y := Y0.other (c := w1.heap.size) (o := 0) (vs := m.row.toList) (by omega)
  have hs := hb.size
  refine ⟨Z, Y, (Z.stored m).other (by omega), Y.stored _ _ _, setCells_below _ _ _ (setCells_below _ _ _ ((hb.alloc hs _).alloc (by simp; omega) _) hs) (by omega)⟩

set_option maxHeartbeats 400000 in
theorem law_long (a0 : Option Addr) (l0 c0 : Nat) (w : World) (h : 1048576 < l0) (m0 : l0 ≤ 9223372036854775807) :
    Calls Tryd.prog 11 #[.slice a0 l0 c0] w fun e w' => e = .returned (.bool true) ∧ Below w.heap.size w w' := by
  go_enter Tryd.func11, Tryd.ntmps11
  go_wp2
  go_ret
  exact ⟨rfl, Below.refl _ _⟩

set_option maxRecDepth 100000 in
set_option maxHeartbeats 2000000 in
theorem law_short (a0 : Option Addr) (l0 c0 : Nat) (w : World) (T : KTab w) (h0 : l0 ≤ 1048576) (C0 : CodeAt (.slice a0 l0 c0) w) :
    Calls Tryd.prog 11 #[.slice a0 l0 c0] w fun e w' => e = .returned (.bool true) ∧ Below w.heap.size w w' := by
  go_enter Tryd.func11, Tryd.ntmps11
  go_wp2_with fail
  refine (draw_bit _ w C0).mono ?_
  rintro e w1 ⟨m, k, n, p, hm, rfl, hb⟩
  obtain ⟨Z, Y, D⟩ := drew_of (m := m) (k := k) (n := n) (p := p) hb 61 24
  have L1 := store_mem m Z
  have L2 := Y.store (x' := .int .i64 k) (y' := .int .i64 n) (z' := .int .i64 p) rfl rfl rfl
  clear Z Y hb C0
  go_upto_region 4 with (refine list_store (t := 61) (x := .pointer (some ⟨w1.heap.size, 0, none⟩)) (u := .agg m.row) rfl rfl rfl rfl L1 ?_; refine list_store (t := 24) (x := .pointer (some ⟨w1.heap.size + 1, 0, none⟩)) (u := .agg #[.int .i64 k, .int .i64 n, .int .i64 p]) rfl rfl rfl rfl L2 ?_)
  simp only [Act.put]
  clear L1 L2
  generalize ((((w1.alloc (.cells Tryd.zeroCells61 61)).alloc (.cells #[.int .i64 0, .int .i64 0, .int .i64 0] 24)).setCells w1.heap.size 0 m.row.toList).setCells (w1.heap.size + 1) 0 [.int .i64 k, .int .i64 n, .int .i64 p]) = w2 at D ⊢
  generalize w1.heap.size = q at D ⊢
  obtain ⟨M, G, BW⟩ := D
  have g0 := G.c0
  have g1 := G.c1
  have TT : ∀ w', Below w2.heap.size w2 w' → KTab w' := fun w' hw' => T.below (BW.trans (hw'.mono BW.size)) (Nat.le_refl _)
  obtain ⟨mb, hmb⟩ : ∃ mb, mb = mbit m k n := ⟨_, rfl⟩
  have C2 : ∀ w, KTab w → Calls Tryd.prog 39 #[.agg m.row, .agg #[.int .i64 k, .int .i64 n, .int .i64 p]] w fun e w' => e = .returned (.bool mb) ∧ Below w.heap.size w w' := fun w T => hmb ▸ impl_membit m k n p w hm T
  have C4 : ∀ w, Calls Tryd.prog 53 #[.agg m.row, .agg #[.int .i64 k, .int .i64 n, .int .i64 p]] w fun e w' => e = .returned (.bool mb) ∧ Below w.heap.size w w' := fun w => hmb ▸ spec_membit m k n p w hm
  obtain ⟨s, hs⟩ : ∃ s, s = szR k := ⟨_, rfl⟩
  have hs2 := szR_bd k
  rw [← hs] at hs2
  by_cases hout : s = 0 ∨ 1000 < n ∨ n < -1000
  · clear hmb
    have hQ : ∀ (z : Int), z = s → ((z == 0) = true ∨ ((z == 0) = false ∧ (decide (1000 < n) = true ∨ (decide (1000 < n) = false ∧ decide (n < -1000) = true)))) := by
      intro z hz
      subst hz
      simp
      omega
    by_cases h6 : k = 6
    · subst h6
      have hs8 : s = 8 := hs
      have hn : 1000 < n ∨ n < -1000 := by omega
      clear hs hs2 hout hQ hs8
      rcases hn with hn | hn
      · have e1 : decide (1000 < n) = true := by simpa using hn
        go_upto_region 8 with (go_at_call 52; refine (spec_size _ _).mono ?_; rintro e w' ⟨rfl, rfl⟩)
        refine wp_region_belowM (by kernel_rfl) (by kernel_rfl) ?_
        refine quiet_load (t := 61) (v := .agg m.row) rfl rfl rfl (fun w' hw' => load_mem (M.below hw' M.z)) ?_
        go_simp
        refine quiet_load (t := 24) (v := (.agg #[.int .i64 6, .int .i64 n, .int .i64 p])) rfl rfl rfl (fun w' hw' => (G.below hw' G.lt).load) ?_
        go_simp
        refine wpQuiet_step (fun K hK => ?_)
        go_simp
        refine ⟨(.bool mb), fun w' hw' => (C2 w' (TT w' hw')).mono fun e w'' ⟨he, hb⟩ => ⟨he, hw'.trans (hb.mono hw'.size)⟩, hK _ ?_⟩
        clear hK K
        refine quiet_load (t := 61) (v := .agg m.row) rfl rfl rfl (fun w' hw' => load_mem (M.below hw' M.z)) ?_
        go_simp
        refine quiet_load (t := 24) (v := (.agg #[.int .i64 6, .int .i64 n, .int .i64 p])) rfl rfl rfl (fun w' hw' => (G.below hw' G.lt).load) ?_
        go_simp
        refine wpQuiet_step (fun K hK => ?_)
        go_simp
        refine ⟨(.bool mb), fun w' hw' => (C4 w').mono fun e w'' ⟨he, hb⟩ => ⟨he, hw'.trans (hb.mono hw'.size)⟩, hK _ ?_⟩
        clear hK K
        refine wpQuiet_step (fun K hK => ?_)
        go_simp
        refine ⟨.bool true, fun _ _ => by simp, hK _ ?_⟩
        clear hK K
        quiet_step (exact fun _ => rfl)
        refine wpQuiet_nil ?_
        intro w3 hw3
        have BW3 := BW.trans (hw3.mono BW.size)
        clear hw3 TT C2 C4 M G BW g0 g1
        go_wp2_with fail
        go_ret
        exact ⟨rfl, BW3⟩
      · have e1 : decide (1000 < n) = false := by simp; omega
        have e2 : decide (n < -1000) = true := by simpa using hn
        go_upto_region 8 with (go_at_call 52; refine (spec_size _ _).mono ?_; rintro e w' ⟨rfl, rfl⟩)
        refine wp_region_belowM (by kernel_rfl) (by kernel_rfl) ?_
        refine quiet_load (t := 61) (v := .agg m.row) rfl rfl rfl (fun w' hw' => load_mem (M.below hw' M.z)) ?_
        go_simp
        refine quiet_load (t := 24) (v := (.agg #[.int .i64 6, .int .i64 n, .int .i64 p])) rfl rfl rfl (fun w' hw' => (G.below hw' G.lt).load) ?_
        go_simp
        refine wpQuiet_step (fun K hK => ?_)
        go_simp
        refine ⟨(.bool mb), fun w' hw' => (C2 w' (TT w' hw')).mono fun e w'' ⟨he, hb⟩ => ⟨he, hw'.trans (hb.mono hw'.size)⟩, hK _ ?_⟩
        clear hK K
        refine quiet_load (t := 61) (v := .agg m.row) rfl rfl rfl (fun w' hw' => load_mem (M.below hw' M.z)) ?_
        go_simp
        refine quiet_load (t := 24) (v := (.agg #[.int .i64 6, .int .i64 n, .int .i64 p])) rfl rfl rfl (fun w' hw' => (G.below hw' G.lt).load) ?_
        go_simp
        refine wpQuiet_step (fun K hK => ?_)
        go_simp
        refine ⟨(.bool mb), fun w' hw' => (C4 w').mono fun e w'' ⟨he, hb⟩ => ⟨he, hw'.trans (hb.mono hw'.size)⟩, hK _ ?_⟩
        clear hK K
        refine wpQuiet_step (fun K hK => ?_)
        go_simp
        refine ⟨.bool true, fun _ _ => by simp, hK _ ?_⟩
        clear hK K
        quiet_step (exact fun _ => rfl)
        refine wpQuiet_nil ?_
        intro w3 hw3
        have BW3 := BW.trans (hw3.mono BW.size)
        clear hw3 TT C2 C4 M G BW g0 g1
        go_wp2_with fail
        go_ret
        exact ⟨rfl, BW3⟩
    · have hk6 : (k == 6) = false := by simpa using h6
      have hsz : sizeZ k = s := by rw [hs]; unfold szR; rw [if_neg h6]
      have SZ : ∀ w, Calls Tryd.prog 52 #[.int .i64 k] w fun e w' => e = .returned (.int .i64 s) ∧ w' = w := fun w => hsz ▸ spec_size k w
      clear hs hs2 hsz
      have hcase := hQ s rfl
      clear hQ hout
      rcases hcase with e0 | ⟨e0, e1 | ⟨e1, e2⟩⟩
      · go_upto_region 8 with (go_at_call 52; refine (SZ _).mono ?_; rintro e w' ⟨rfl, rfl⟩)
        refine wp_region_belowM (by kernel_rfl) (by kernel_rfl) ?_
        refine quiet_load (t := 61) (v := .agg m.row) rfl rfl rfl (fun w' hw' => load_mem (M.below hw' M.z)) ?_
        go_simp
        refine quiet_load (t := 24) (v := (.agg #[.int .i64 k, .int .i64 n, .int .i64 p])) rfl rfl rfl (fun w' hw' => (G.below hw' G.lt).load) ?_
        go_simp
        refine wpQuiet_step (fun K hK => ?_)
        go_simp
        refine ⟨(.bool mb), fun w' hw' => (C2 w' (TT w' hw')).mono fun e w'' ⟨he, hb⟩ => ⟨he, hw'.trans (hb.mono hw'.size)⟩, hK _ ?_⟩
        clear hK K
        refine quiet_load (t := 61) (v := .agg m.row) rfl rfl rfl (fun w' hw' => load_mem (M.below hw' M.z)) ?_
        go_simp
        refine quiet_load (t := 24) (v := (.agg #[.int .i64 k, .int .i64 n, .int .i64 p])) rfl rfl rfl (fun w' hw' => (G.below hw' G.lt).load) ?_
        go_simp
        refine wpQuiet_step (fun K hK => ?_)
        go_simp
        refine ⟨(.bool mb), fun w' hw' => (C4 w').mono fun e w'' ⟨he, hb⟩ => ⟨he, hw'.trans (hb.mono hw'.size)⟩, hK _ ?_⟩
        clear hK K
        refine wpQuiet_step (fun K hK => ?_)
        go_simp
        refine ⟨.bool true, fun _ _ => by simp, hK _ ?_⟩
        clear hK K
        quiet_step (exact fun _ => rfl)
        refine wpQuiet_nil ?_
        intro w3 hw3
        have BW3 := BW.trans (hw3.mono BW.size)
        clear hw3 TT C2 C4 M G BW g0 g1 SZ
        go_wp2_with fail
        go_ret
        exact ⟨rfl, BW3⟩
      · go_upto_region 8 with (go_at_call 52; refine (SZ _).mono ?_; rintro e w' ⟨rfl, rfl⟩)
        refine wp_region_belowM (by kernel_rfl) (by kernel_rfl) ?_
        refine quiet_load (t := 61) (v := .agg m.row) rfl rfl rfl (fun w' hw' => load_mem (M.below hw' M.z)) ?_
        go_simp
        refine quiet_load (t := 24) (v := (.agg #[.int .i64 k, .int .i64 n, .int .i64 p])) rfl rfl rfl (fun w' hw' => (G.below hw' G.lt).load) ?_
        go_simp
        refine wpQuiet_step (fun K hK => ?_)
        go_simp
        refine ⟨(.bool mb), fun w' hw' => (C2 w' (TT w' hw')).mono fun e w'' ⟨he, hb⟩ => ⟨he, hw'.trans (hb.mono hw'.size)⟩, hK _ ?_⟩
        clear hK K
        refine quiet_load (t := 61) (v := .agg m.row) rfl rfl rfl (fun w' hw' => load_mem (M.below hw' M.z)) ?_
        go_simp
        refine quiet_load (t := 24) (v := (.agg #[.int .i64 k, .int .i64 n, .int .i64 p])) rfl rfl rfl (fun w' hw' => (G.below hw' G.lt).load) ?_
        go_simp
        refine wpQuiet_step (fun K hK => ?_)
        go_simp
        refine ⟨(.bool mb), fun w' hw' => (C4 w').mono fun e w'' ⟨he, hb⟩ => ⟨he, hw'.trans (hb.mono hw'.size)⟩, hK _ ?_⟩
        clear hK K
        refine wpQuiet_step (fun K hK => ?_)
        go_simp
        refine ⟨.bool true, fun _ _ => by simp, hK _ ?_⟩
        clear hK K
        quiet_step (exact fun _ => rfl)
        refine wpQuiet_nil ?_
        intro w3 hw3
        have BW3 := BW.trans (hw3.mono BW.size)
        clear hw3 TT C2 C4 M G BW g0 g1 SZ
        go_wp2_with fail
        go_ret
        exact ⟨rfl, BW3⟩
      · go_upto_region 8 with (go_at_call 52; refine (SZ _).mono ?_; rintro e w' ⟨rfl, rfl⟩)
        refine wp_region_belowM (by kernel_rfl) (by kernel_rfl) ?_
        refine quiet_load (t := 61) (v := .agg m.row) rfl rfl rfl (fun w' hw' => load_mem (M.below hw' M.z)) ?_
        go_simp
        refine quiet_load (t := 24) (v := (.agg #[.int .i64 k, .int .i64 n, .int .i64 p])) rfl rfl rfl (fun w' hw' => (G.below hw' G.lt).load) ?_
        go_simp
        refine wpQuiet_step (fun K hK => ?_)
        go_simp
        refine ⟨(.bool mb), fun w' hw' => (C2 w' (TT w' hw')).mono fun e w'' ⟨he, hb⟩ => ⟨he, hw'.trans (hb.mono hw'.size)⟩, hK _ ?_⟩
        clear hK K
        refine quiet_load (t := 61) (v := .agg m.row) rfl rfl rfl (fun w' hw' => load_mem (M.below hw' M.z)) ?_
        go_simp
        refine quiet_load (t := 24) (v := (.agg #[.int .i64 k, .int .i64 n, .int .i64 p])) rfl rfl rfl (fun w' hw' => (G.below hw' G.lt).load) ?_
        go_simp
        refine wpQuiet_step (fun K hK => ?_)
        go_simp
        refine ⟨(.bool mb), fun w' hw' => (C4 w').mono fun e w'' ⟨he, hb⟩ => ⟨he, hw'.trans (hb.mono hw'.size)⟩, hK _ ?_⟩
        clear hK K
        refine wpQuiet_step (fun K hK => ?_)
        go_simp
        refine ⟨.bool true, fun _ _ => by simp, hK _ ?_⟩
        clear hK K
        quiet_step (exact fun _ => rfl)
        refine wpQuiet_nil ?_
        intro w3 hw3
        have BW3 := BW.trans (hw3.mono BW.size)
        clear hw3 TT C2 C4 M G BW g0 g1 SZ
        go_wp2_with fail
        go_ret
        exact ⟨rfl, BW3⟩
  · have hs0 : s ≠ 0 := fun h => hout (Or.inl h)
    have hn1 : n ≤ 1000 := by omega
    have hn2 : -1000 ≤ n := by omega
    clear hout
    have hk : 1 ≤ k ∧ k ≤ 10 := by
      apply Classical.byContradiction
      intro hno
      exact hs0 (hs.trans (szR_out (by omega)))
    have a1 : atZ k (n + s) = atZ k n := by
      have := at_round k n 1
      rwa [Int.one_mul, ← hs] at this
    have a2 : atZ k (n - 3 * s) = atZ k n := by
      have := at_round k n (-3)
      rw [← hs] at this
      rw [← this]
      congr 1
      omega
    obtain ⟨wz, hwz⟩ : ∃ wz, wz = wholeZ m k n := ⟨_, rfl⟩
    obtain ⟨rx, hrx⟩ : ∃ rx, rx = realX m k n 0 := ⟨_, rfl⟩
    have C1 : ∀ w, KTab w → Calls Tryd.prog 39 #[.agg m.row, .agg #[.int .i64 k, .int .i64 (n + s), .int .i64 0]] w fun e w' => e = .returned (.bool mb) ∧ Below w.heap.size w w' := fun w T => by
      rw [hmb, ← mbit_round m a1]; exact impl_membit m k (n + s) 0 w hm T
    have C3 : ∀ w, KTab w → Calls Tryd.prog 39 #[.agg m.row, .agg #[.int .i64 k, .int .i64 (n - 3 * s), .int .i64 0]] w fun e w' => e = .returned (.bool mb) ∧ Below w.heap.size w w' := fun w T => by
      rw [hmb, ← mbit_round m a2]; exact impl_membit m k (n - 3 * s) 0 w hm T
    have W1 : ∀ w, KTab w → Calls Tryd.prog 43 #[.agg m.row, .agg #[.int .i64 k, .int .i64 (n + s), .int .i64 0]] w fun e w' => e = .returned (.int .i16 wz) ∧ Below w.heap.size w w' := fun w T => by
      rw [hwz, ← whole_round m a1 (by omega)]; exact impl_memwhole m k (n + s) 0 w hm T
    have W2 : ∀ w, KTab w → Calls Tryd.prog 43 #[.agg m.row, .agg #[.int .i64 k, .int .i64 n, .int .i64 p]] w fun e w' => e = .returned (.int .i16 wz) ∧ Below w.heap.size w w' := fun w T => hwz ▸ impl_memwhole m k n p w hm T
    have W3 : ∀ w, KTab w → Calls Tryd.prog 43 #[.agg m.row, .agg #[.int .i64 k, .int .i64 (n - 3 * s), .int .i64 0]] w fun e w' => e = .returned (.int .i16 wz) ∧ Below w.heap.size w w' := fun w T => by
      rw [hwz, ← whole_round m a2 (by omega)]; exact impl_memwhole m k (n - 3 * s) 0 w hm T
    have W4 : ∀ w, Calls Tryd.prog 54 #[.agg m.row, .agg #[.int .i64 k, .int .i64 n, .int .i64 p]] w fun e w' => e = .returned (.int .i16 wz) ∧ Below w.heap.size w w' := fun w => hwz ▸ spec_memwhole m k n p w hm
    have R1 : ∀ w, KTab w → Calls Tryd.prog 47 #[.agg m.row, .agg #[.int .i64 k, .int .i64 (n + s), .int .i64 0]] w fun e w' => e = .returned (.float .f64 rx) ∧ Below w.heap.size w w' := fun w T => by
      rw [hrx, ← real_round m a1 (by omega) (by omega)]; exact impl_memreal m k (n + s) 0 w T
    have R2 : ∀ w, KTab w → Calls Tryd.prog 47 #[.agg m.row, .agg #[.int .i64 k, .int .i64 (n - 3 * s), .int .i64 0]] w fun e w' => e = .returned (.float .f64 rx) ∧ Below w.heap.size w w' := fun w T => by
      rw [hrx, ← real_round m a2 (by omega) (by omega)]; exact impl_memreal m k (n - 3 * s) 0 w T
    have hq := G.lt
    have e0 : (s == 0) = false := by simpa using hs0
    have e1 : decide (1000 < n) = false := by simp; omega
    have e2 : decide (n < -1000) = false := by simp; omega
    have GB0 := ArgAt.alloc (.int .i64 k) (.int .i64 (n + s)) (.int .i64 0) w2 24
    have GC0 := ArgAt.alloc (.int .i64 k) (.int .i64 (n - 3 * s)) (.int .i64 0) (w2.alloc (.cells #[.int .i64 k, .int .i64 (n + s), .int .i64 0] 24)) 24
    have h1 : ∀ (w : World) (o : Obj), Below w.heap.size w (w.alloc o) := fun w o => (Below.refl _ _).alloc (Nat.le_refl _) _
    have GB1 := GB0.below (h1 _ (.cells #[.int .i64 k, .int .i64 (n - 3 * s), .int .i64 0] 24)) (by simp)
    have M1 := (M.below (h1 _ (.cells #[.int .i64 k, .int .i64 (n + s), .int .i64 0] 24)) M.z).below (h1 _ (.cells #[.int .i64 k, .int .i64 (n - 3 * s), .int .i64 0] 24)) (by have := M.z; simp; omega)
    have G1 := (G.below (h1 _ (.cells #[.int .i64 k, .int .i64 (n + s), .int .i64 0] 24)) G.lt).below (h1 _ (.cells #[.int .i64 k, .int .i64 (n - 3 * s), .int .i64 0] 24)) (by have := G.lt; simp; omega)
    have BW1 := (BW.alloc BW.size (.cells #[.int .i64 k, .int .i64 (n + s), .int .i64 0] 24)).alloc (by have := BW.size; simp; omega) (.cells #[.int .i64 k, .int .i64 (n - 3 * s), .int .i64 0] 24)
    rw [show (w2.alloc (.cells #[.int .i64 k, .int .i64 (n + s), .int .i64 0] 24)).heap.size = w2.heap.size + 1 by simp] at GC0
    clear GB0 hmb hwz hrx a1 a2
    have hsK : (k = 6 ∧ s = 8) ∨ ((k == 6) = false ∧ sizeZ k = s) := by
      by_cases h6 : k = 6
      · exact Or.inl ⟨h6, by rw [hs, h6]; rfl⟩
      · exact Or.inr ⟨by simpa using h6, by rw [hs]; unfold szR; rw [if_neg h6]⟩
    clear hs
    rcases hsK with ⟨rfl, rfl⟩ | ⟨hk6, hsz⟩
    · have e24 : n - 3 * 8 = n - 24 := by omega
      simp only [e24] at C3 W3 R2 GB1 GC0 M1 G1 BW1
      go_upto_region 11 with (go_at_call 52; refine (spec_size _ _).mono ?_; rintro e wx ⟨rfl, hwx⟩; rw [hwx]; clear hwx)
      clear g0 g1
      generalize ((w2.alloc (.cells #[.int .i64 6, .int .i64 (n + 8), .int .i64 0] 24)).alloc (.cells #[.int .i64 6, .int .i64 (n - 24), .int .i64 0] 24)) = w4 at GB1 GC0 M1 G1 BW1 ⊢
      clear M G BW TT h1
      have M := M1
      have G := G1
      have GB := GB1
      have GC := GC0
      have BW := BW1
      have TT : ∀ w', Below w4.heap.size w4 w' → KTab w' := fun w' hw' => T.below (BW.trans (hw'.mono BW.size)) (Nat.le_refl _)
      clear M1 G1 GB1 GC0 BW1
      refine wp_region_belowM (by kernel_rfl) (by kernel_rfl) ?_
      refine quiet_load (t := 61) (v := .agg m.row) rfl rfl rfl (fun w' hw' => load_mem (M.below hw' M.z)) ?_
      go_simp
      refine quiet_load (t := 24) (v := (.agg #[.int .i64 6, .int .i64 (n + 8), .int .i64 0])) rfl rfl rfl (fun w' hw' => (GB.below hw' GB.lt).load) ?_
      go_simp
      refine wpQuiet_step (fun K hK => ?_)
      go_simp
      refine ⟨(.bool mb), fun w' hw' => (C1 w' (TT w' hw')).mono fun e w'' ⟨he, hb⟩ => ⟨he, hw'.trans (hb.mono hw'.size)⟩, hK _ ?_⟩
      clear hK K
      refine quiet_load (t := 61) (v := .agg m.row) rfl rfl rfl (fun w' hw' => load_mem (M.below hw' M.z)) ?_
      go_simp
      refine quiet_load (t := 24) (v := (.agg #[.int .i64 6, .int .i64 n, .int .i64 p])) rfl rfl rfl (fun w' hw' => (G.below hw' G.lt).load) ?_
      go_simp
      refine wpQuiet_step (fun K hK => ?_)
      go_simp
      refine ⟨(.bool mb), fun w' hw' => (C2 w' (TT w' hw')).mono fun e w'' ⟨he, hb⟩ => ⟨he, hw'.trans (hb.mono hw'.size)⟩, hK _ ?_⟩
      clear hK K
      refine wpQuiet_step (fun K hK => ?_)
      go_simp
      refine ⟨.bool true, fun _ _ => by simp, hK _ ?_⟩
      clear hK K
      quiet_step (exact fun _ => rfl)
      refine quiet_load (t := 61) (v := .agg m.row) rfl rfl rfl (fun w' hw' => load_mem (M.below hw' M.z)) ?_
      go_simp
      refine quiet_load (t := 24) (v := (.agg #[.int .i64 6, .int .i64 (n - 24), .int .i64 0])) rfl rfl rfl (fun w' hw' => (GC.below hw' GC.lt).load) ?_
      go_simp
      refine wpQuiet_step (fun K hK => ?_)
      go_simp
      refine ⟨(.bool mb), fun w' hw' => (C3 w' (TT w' hw')).mono fun e w'' ⟨he, hb⟩ => ⟨he, hw'.trans (hb.mono hw'.size)⟩, hK _ ?_⟩
      clear hK K
      refine quiet_load (t := 61) (v := .agg m.row) rfl rfl rfl (fun w' hw' => load_mem (M.below hw' M.z)) ?_
      go_simp
      refine quiet_load (t := 24) (v := (.agg #[.int .i64 6, .int .i64 n, .int .i64 p])) rfl rfl rfl (fun w' hw' => (G.below hw' G.lt).load) ?_
      go_simp
      refine wpQuiet_step (fun K hK => ?_)
      go_simp
      refine ⟨(.bool mb), fun w' hw' => (C4 w').mono fun e w'' ⟨he, hb⟩ => ⟨he, hw'.trans (hb.mono hw'.size)⟩, hK _ ?_⟩
      clear hK K
      refine wpQuiet_step (fun K hK => ?_)
      go_simp
      refine ⟨.bool true, fun _ _ => by simp, hK _ ?_⟩
      clear hK K
      quiet_step (exact fun _ => rfl)
      quiet_step (exact fun _ => rfl)
      refine quiet_load (t := 61) (v := .agg m.row) rfl rfl rfl (fun w' hw' => load_mem (M.below hw' M.z)) ?_
      go_simp
      refine quiet_load (t := 24) (v := (.agg #[.int .i64 6, .int .i64 (n + 8), .int .i64 0])) rfl rfl rfl (fun w' hw' => (GB.below hw' GB.lt).load) ?_
      go_simp
      refine wpQuiet_step (fun K hK => ?_)
      go_simp
      refine ⟨(.int .i16 wz), fun w' hw' => (W1 w' (TT w' hw')).mono fun e w'' ⟨he, hb⟩ => ⟨he, hw'.trans (hb.mono hw'.size)⟩, hK _ ?_⟩
      clear hK K
      refine quiet_load (t := 61) (v := .agg m.row) rfl rfl rfl (fun w' hw' => load_mem (M.below hw' M.z)) ?_
      go_simp
      refine quiet_load (t := 24) (v := (.agg #[.int .i64 6, .int .i64 n, .int .i64 p])) rfl rfl rfl (fun w' hw' => (G.below hw' G.lt).load) ?_
      go_simp
      refine wpQuiet_step (fun K hK => ?_)
      go_simp
      refine ⟨(.int .i16 wz), fun w' hw' => (W2 w' (TT w' hw')).mono fun e w'' ⟨he, hb⟩ => ⟨he, hw'.trans (hb.mono hw'.size)⟩, hK _ ?_⟩
      clear hK K
      refine wpQuiet_step (fun K hK => ?_)
      go_simp
      refine ⟨.bool true, fun _ _ => by simp, hK _ ?_⟩
      clear hK K
      quiet_step (exact fun _ => rfl)
      quiet_step (exact fun _ => rfl)
      refine quiet_load (t := 61) (v := .agg m.row) rfl rfl rfl (fun w' hw' => load_mem (M.below hw' M.z)) ?_
      go_simp
      refine quiet_load (t := 24) (v := (.agg #[.int .i64 6, .int .i64 (n - 24), .int .i64 0])) rfl rfl rfl (fun w' hw' => (GC.below hw' GC.lt).load) ?_
      go_simp
      refine wpQuiet_step (fun K hK => ?_)
      go_simp
      refine ⟨(.int .i16 wz), fun w' hw' => (W3 w' (TT w' hw')).mono fun e w'' ⟨he, hb⟩ => ⟨he, hw'.trans (hb.mono hw'.size)⟩, hK _ ?_⟩
      clear hK K
      refine quiet_load (t := 61) (v := .agg m.row) rfl rfl rfl (fun w' hw' => load_mem (M.below hw' M.z)) ?_
      go_simp
      refine quiet_load (t := 24) (v := (.agg #[.int .i64 6, .int .i64 n, .int .i64 p])) rfl rfl rfl (fun w' hw' => (G.below hw' G.lt).load) ?_
      go_simp
      refine wpQuiet_step (fun K hK => ?_)
      go_simp
      refine ⟨(.int .i16 wz), fun w' hw' => (W4 w').mono fun e w'' ⟨he, hb⟩ => ⟨he, hw'.trans (hb.mono hw'.size)⟩, hK _ ?_⟩
      clear hK K
      refine wpQuiet_step (fun K hK => ?_)
      go_simp
      refine ⟨.bool true, fun _ _ => by simp, hK _ ?_⟩
      clear hK K
      quiet_step (exact fun _ => rfl)
      quiet_step (exact fun _ => rfl)
      refine quiet_load (t := 61) (v := .agg m.row) rfl rfl rfl (fun w' hw' => load_mem (M.below hw' M.z)) ?_
      go_simp
      refine quiet_load (t := 24) (v := (.agg #[.int .i64 6, .int .i64 (n + 8), .int .i64 0])) rfl rfl rfl (fun w' hw' => (GB.below hw' GB.lt).load) ?_
      go_simp
      refine wpQuiet_step (fun K hK => ?_)
      go_simp
      refine ⟨(.float .f64 rx), fun w' hw' => (R1 w' (TT w' hw')).mono fun e w'' ⟨he, hb⟩ => ⟨he, hw'.trans (hb.mono hw'.size)⟩, hK _ ?_⟩
      clear hK K
      refine quiet_load (t := 61) (v := .agg m.row) rfl rfl rfl (fun w' hw' => load_mem (M.below hw' M.z)) ?_
      go_simp
      refine quiet_load (t := 24) (v := (.agg #[.int .i64 6, .int .i64 (n - 24), .int .i64 0])) rfl rfl rfl (fun w' hw' => (GC.below hw' GC.lt).load) ?_
      go_simp
      refine wpQuiet_step (fun K hK => ?_)
      go_simp
      refine ⟨(.float .f64 rx), fun w' hw' => (R2 w' (TT w' hw')).mono fun e w'' ⟨he, hb⟩ => ⟨he, hw'.trans (hb.mono hw'.size)⟩, hK _ ?_⟩
      clear hK K
      refine wpQuiet_step (fun K hK => ?_)
      go_simp
      refine ⟨.bool true, fun w' hw' => (wr_same w' (same_any rx)).mono fun e w'' ⟨he, hb⟩ => ⟨he, by rw [hb]; exact hw'⟩, hK _ ?_⟩
      clear hK K
      quiet_step (exact fun _ => rfl)
      quiet_step (exact fun _ => rfl)
      refine wpQuiet_nil ?_
      intro w5 hw5
      have BW5 := BW.trans (hw5.mono BW.size)
      clear hw5 TT C1 C2 C3 C4 W1 W2 W3 W4 R1 R2 M G GB GC BW
      go_wp2_with fail
      go_ret
      exact ⟨rfl, BW5⟩
    · have SZ : ∀ w, Calls Tryd.prog 52 #[.int .i64 k] w fun e w' => e = .returned (.int .i64 s) ∧ w' = w := fun w => hsz ▸ spec_size k w
      clear hsz
      go_upto_region 11 with (go_at_call 52; refine (SZ _).mono ?_; rintro e wx ⟨rfl, hwx⟩; rw [hwx]; clear hwx)
      clear SZ g0 g1
      generalize ((w2.alloc (.cells #[.int .i64 k, .int .i64 (n + s), .int .i64 0] 24)).alloc (.cells #[.int .i64 k, .int .i64 (n - 3 * s), .int .i64 0] 24)) = w4 at GB1 GC0 M1 G1 BW1 ⊢
      clear M G BW TT h1
      have M := M1
      have G := G1
      have GB := GB1
      have GC := GC0
      have BW := BW1
      have TT : ∀ w', Below w4.heap.size w4 w' → KTab w' := fun w' hw' => T.below (BW.trans (hw'.mono BW.size)) (Nat.le_refl _)
      clear M1 G1 GB1 GC0 BW1
      refine wp_region_belowM (by kernel_rfl) (by kernel_rfl) ?_
      refine quiet_load (t := 61) (v := .agg m.row) rfl rfl rfl (fun w' hw' => load_mem (M.below hw' M.z)) ?_
      go_simp
      refine quiet_load (t := 24) (v := (.agg #[.int .i64 k, .int .i64 (n + s), .int .i64 0])) rfl rfl rfl (fun w' hw' => (GB.below hw' GB.lt).load) ?_
      go_simp
      refine wpQuiet_step (fun K hK => ?_)
      go_simp
      refine ⟨(.bool mb), fun w' hw' => (C1 w' (TT w' hw')).mono fun e w'' ⟨he, hb⟩ => ⟨he, hw'.trans (hb.mono hw'.size)⟩, hK _ ?_⟩
      clear hK K
      refine quiet_load (t := 61) (v := .agg m.row) rfl rfl rfl (fun w' hw' => load_mem (M.below hw' M.z)) ?_
      go_simp
      refine quiet_load (t := 24) (v := (.agg #[.int .i64 k, .int .i64 n, .int .i64 p])) rfl rfl rfl (fun w' hw' => (G.below hw' G.lt).load) ?_
      go_simp
      refine wpQuiet_step (fun K hK => ?_)
      go_simp
      refine ⟨(.bool mb), fun w' hw' => (C2 w' (TT w' hw')).mono fun e w'' ⟨he, hb⟩ => ⟨he, hw'.trans (hb.mono hw'.size)⟩, hK _ ?_⟩
      clear hK K
      refine wpQuiet_step (fun K hK => ?_)
      go_simp
      refine ⟨.bool true, fun _ _ => by simp, hK _ ?_⟩
      clear hK K
      quiet_step (exact fun _ => rfl)
      refine quiet_load (t := 61) (v := .agg m.row) rfl rfl rfl (fun w' hw' => load_mem (M.below hw' M.z)) ?_
      go_simp
      refine quiet_load (t := 24) (v := (.agg #[.int .i64 k, .int .i64 (n - 3 * s), .int .i64 0])) rfl rfl rfl (fun w' hw' => (GC.below hw' GC.lt).load) ?_
      go_simp
      refine wpQuiet_step (fun K hK => ?_)
      go_simp
      refine ⟨(.bool mb), fun w' hw' => (C3 w' (TT w' hw')).mono fun e w'' ⟨he, hb⟩ => ⟨he, hw'.trans (hb.mono hw'.size)⟩, hK _ ?_⟩
      clear hK K
      refine quiet_load (t := 61) (v := .agg m.row) rfl rfl rfl (fun w' hw' => load_mem (M.below hw' M.z)) ?_
      go_simp
      refine quiet_load (t := 24) (v := (.agg #[.int .i64 k, .int .i64 n, .int .i64 p])) rfl rfl rfl (fun w' hw' => (G.below hw' G.lt).load) ?_
      go_simp
      refine wpQuiet_step (fun K hK => ?_)
      go_simp
      refine ⟨(.bool mb), fun w' hw' => (C4 w').mono fun e w'' ⟨he, hb⟩ => ⟨he, hw'.trans (hb.mono hw'.size)⟩, hK _ ?_⟩
      clear hK K
      refine wpQuiet_step (fun K hK => ?_)
      go_simp
      refine ⟨.bool true, fun _ _ => by simp, hK _ ?_⟩
      clear hK K
      quiet_step (exact fun _ => rfl)
      quiet_step (exact fun _ => rfl)
      refine quiet_load (t := 61) (v := .agg m.row) rfl rfl rfl (fun w' hw' => load_mem (M.below hw' M.z)) ?_
      go_simp
      refine quiet_load (t := 24) (v := (.agg #[.int .i64 k, .int .i64 (n + s), .int .i64 0])) rfl rfl rfl (fun w' hw' => (GB.below hw' GB.lt).load) ?_
      go_simp
      refine wpQuiet_step (fun K hK => ?_)
      go_simp
      refine ⟨(.int .i16 wz), fun w' hw' => (W1 w' (TT w' hw')).mono fun e w'' ⟨he, hb⟩ => ⟨he, hw'.trans (hb.mono hw'.size)⟩, hK _ ?_⟩
      clear hK K
      refine quiet_load (t := 61) (v := .agg m.row) rfl rfl rfl (fun w' hw' => load_mem (M.below hw' M.z)) ?_
      go_simp
      refine quiet_load (t := 24) (v := (.agg #[.int .i64 k, .int .i64 n, .int .i64 p])) rfl rfl rfl (fun w' hw' => (G.below hw' G.lt).load) ?_
      go_simp
      refine wpQuiet_step (fun K hK => ?_)
      go_simp
      refine ⟨(.int .i16 wz), fun w' hw' => (W2 w' (TT w' hw')).mono fun e w'' ⟨he, hb⟩ => ⟨he, hw'.trans (hb.mono hw'.size)⟩, hK _ ?_⟩
      clear hK K
      refine wpQuiet_step (fun K hK => ?_)
      go_simp
      refine ⟨.bool true, fun _ _ => by simp, hK _ ?_⟩
      clear hK K
      quiet_step (exact fun _ => rfl)
      quiet_step (exact fun _ => rfl)
      refine quiet_load (t := 61) (v := .agg m.row) rfl rfl rfl (fun w' hw' => load_mem (M.below hw' M.z)) ?_
      go_simp
      refine quiet_load (t := 24) (v := (.agg #[.int .i64 k, .int .i64 (n - 3 * s), .int .i64 0])) rfl rfl rfl (fun w' hw' => (GC.below hw' GC.lt).load) ?_
      go_simp
      refine wpQuiet_step (fun K hK => ?_)
      go_simp
      refine ⟨(.int .i16 wz), fun w' hw' => (W3 w' (TT w' hw')).mono fun e w'' ⟨he, hb⟩ => ⟨he, hw'.trans (hb.mono hw'.size)⟩, hK _ ?_⟩
      clear hK K
      refine quiet_load (t := 61) (v := .agg m.row) rfl rfl rfl (fun w' hw' => load_mem (M.below hw' M.z)) ?_
      go_simp
      refine quiet_load (t := 24) (v := (.agg #[.int .i64 k, .int .i64 n, .int .i64 p])) rfl rfl rfl (fun w' hw' => (G.below hw' G.lt).load) ?_
      go_simp
      refine wpQuiet_step (fun K hK => ?_)
      go_simp
      refine ⟨(.int .i16 wz), fun w' hw' => (W4 w').mono fun e w'' ⟨he, hb⟩ => ⟨he, hw'.trans (hb.mono hw'.size)⟩, hK _ ?_⟩
      clear hK K
      refine wpQuiet_step (fun K hK => ?_)
      go_simp
      refine ⟨.bool true, fun _ _ => by simp, hK _ ?_⟩
      clear hK K
      quiet_step (exact fun _ => rfl)
      quiet_step (exact fun _ => rfl)
      refine quiet_load (t := 61) (v := .agg m.row) rfl rfl rfl (fun w' hw' => load_mem (M.below hw' M.z)) ?_
      go_simp
      refine quiet_load (t := 24) (v := (.agg #[.int .i64 k, .int .i64 (n + s), .int .i64 0])) rfl rfl rfl (fun w' hw' => (GB.below hw' GB.lt).load) ?_
      go_simp
      refine wpQuiet_step (fun K hK => ?_)
      go_simp
      refine ⟨(.float .f64 rx), fun w' hw' => (R1 w' (TT w' hw')).mono fun e w'' ⟨he, hb⟩ => ⟨he, hw'.trans (hb.mono hw'.size)⟩, hK _ ?_⟩
      clear hK K
      refine quiet_load (t := 61) (v := .agg m.row) rfl rfl rfl (fun w' hw' => load_mem (M.below hw' M.z)) ?_
      go_simp
      refine quiet_load (t := 24) (v := (.agg #[.int .i64 k, .int .i64 (n - 3 * s), .int .i64 0])) rfl rfl rfl (fun w' hw' => (GC.below hw' GC.lt).load) ?_
      go_simp
      refine wpQuiet_step (fun K hK => ?_)
      go_simp
      refine ⟨(.float .f64 rx), fun w' hw' => (R2 w' (TT w' hw')).mono fun e w'' ⟨he, hb⟩ => ⟨he, hw'.trans (hb.mono hw'.size)⟩, hK _ ?_⟩
      clear hK K
      refine wpQuiet_step (fun K hK => ?_)
      go_simp
      refine ⟨.bool true, fun w' hw' => (wr_same w' (same_any rx)).mono fun e w'' ⟨he, hb⟩ => ⟨he, by rw [hb]; exact hw'⟩, hK _ ?_⟩
      clear hK K
      quiet_step (exact fun _ => rfl)
      quiet_step (exact fun _ => rfl)
      refine wpQuiet_nil ?_
      intro w5 hw5
      have BW5 := BW.trans (hw5.mono BW.size)
      clear hw5 TT C1 C2 C3 C4 W1 W2 W3 W4 R1 R2 M G GB GC BW
      go_wp2_with fail
      go_ret
      exact ⟨rfl, BW5⟩

theorem law (a0 : Option Addr) (l0 c0 : Nat) (w : World) (C0 : CodeAt (.slice a0 l0 c0) w) (m0 : l0 ≤ 9223372036854775807) (T : KTab w) :
    Calls Tryd.prog 11 #[.slice a0 l0 c0] w fun e w' => e = .returned (.bool true) ∧ Below w.heap.size w w' := by
  by_cases hs : 1048576 < l0
  · exact law_long a0 l0 c0 w hs m0
  · exact law_short a0 l0 c0 w T (by omega) C0

end Go.Proofs.YtdhoimjkgicneaaDoor

/- A drawn memory with an operand and a bit to put. -/
namespace Go.Proofs.YtdhoimjkgicneaaDoor
open Go Go.RowKit

theorem Dz.put {R c q : Nat} {w wr : World} (h : Dz R c w wr) (hq : R < q) (x y z : Value) : Dz R c w (wr.setCells q 0 [x, y, z]) := by
  have hz := h.zR
  exact ⟨((h.rd.setCell (a := ⟨q, 0, none⟩) hq x).setCell (a := ⟨q, 1, none⟩) hq y).setCell (a := ⟨q, 2, none⟩) hq z, setCells_below _ _ _ h.b (by omega), h.m.other (by omega), h.g.other (by omega), h.zR⟩

set_option maxRecDepth 100000 in
set_option maxHeartbeats 2000000 in
theorem draw_put (v : Value) (w : World) (h : CodeAt v w) :
    Calls Tryd.prog 38 #[v] w fun e w' => ∃ (m : MemV) (k n p : Int) (b : Bool), m.Ok ∧ e = .returned (.tuple #[.agg m.row, .agg #[.int .i64 k, .int .i64 n, .int .i64 p], .bool b]) ∧ Below w.heap.size w w' := by
  have h' : CodeAt v ((w.alloc (.cells Tryd.zeroCells61 61)).alloc (.cells #[.int .i64 0, .int .i64 0, .int .i64 0] 24)) := (h.below ((Below.refl w.heap.size w).alloc (Nat.le_refl _) _)).below ((Below.refl _ _).alloc (Nat.le_refl _) _)
  go_enter Tryd.func38, Tryd.ntmps38
  go_wp2_with fail
  refine (open_any v _ h').mono ?_
  rintro e w1 ⟨rfl, rd1, hb1⟩
  have D1 : Hid (Dz (w.heap.size + 1 + 1) 0 w w1) := dz_open rd1 hb1
  rw [show ((w.alloc (.cells Tryd.zeroCells61 61)).alloc (.cells #[.int .i64 0, .int .i64 0, .int .i64 0] 24)).heap.size = w.heap.size + 1 + 1 from by simp]
  clear rd1 hb1 h h'
  go_wp2_with fail
  refine (pick_any (w.heap.size + 1 + 1) 0 2 w1 D1.out.rd (by omega) (by omega)).mono ?_
  rintro e w2 ⟨x, rfl, -, -, -, rd2, mv2⟩
  have D2 : Hid (Dz (w.heap.size + 1 + 1) 1 w w2) := D1.out.call rd2 mv2
  clear rd2 mv2 D1
  go_wp2_with fail
  generalize (x == 1) = b
  refine (asks_any (w.heap.size + 1 + 1) 1 w2 D2.out.rd (by omega)).mono ?_
  rintro e w3 ⟨k, n, p, rfl, rd3, mv3⟩
  have D3 : Hid (Dz (w.heap.size + 1 + 1) 13 w w3) := D2.out.call rd3 mv3
  clear rd3 mv3 D2
  go_wp2_with fail
  have hz3 := D3.out.rd.size
  have A3 := ArgAt.alloc (.int .i64 k) (.int .i64 n) (.int .i64 p) w3 24
  have D4 : Hid (Dz (w.heap.size + 1 + 1) 13 w (w3.alloc (.cells #[.int .i64 k, .int .i64 n, .int .i64 p] 24))) := D3.out.alloc _
  clear D3
  generalize (w3.alloc (.cells #[.int .i64 k, .int .i64 n, .int .i64 p] 24)) = w4 at A3 D4 ⊢
  generalize w3.heap.size = q at A3 hz3 ⊢
  refine (pick_any (w.heap.size + 1 + 1) 13 2 w4 D4.out.rd (by omega) (by omega)).mono ?_
  rintro e w5 ⟨y, rfl, -, -, -, rd5, mv5⟩
  have A5 := A3.moved mv5 (by omega)
  have D5 : Hid (Dz (w.heap.size + 1 + 1) 14 w w5) := D4.out.call rd5 mv5
  clear rd5 mv5 D4 A3
  cases hy : y == 0 with
  | true =>
    go_wp2_with fail
    refine (pick_any (w.heap.size + 1 + 1) 14 4 w5 D5.out.rd (by omega) (by omega)).mono ?_
    rintro e w6 ⟨z, rfl, z0, z1, -, rd6, mv6⟩
    have A6 := A5.moved mv6 (by omega)
    have D6 : Hid (Dz (w.heap.size + 1 + 1) 15 w w6) := D5.out.call rd6 mv6
    clear rd6 mv6 D5 A5
    go_wp2_with fail
    refine (arg_any (w.heap.size + 1 + 1) 15 _ w6 D6.out.rd (by omega)).mono ?_
    rintro e w7 ⟨k', n', p', rfl, rd7, mv7⟩
    have A7 := A6.moved mv7 (by omega)
    have D7 : Hid (Dz (w.heap.size + 1 + 1) 19 w w7) := D6.out.call rd7 mv7
    clear rd7 mv7 D6 A6 z0 z1
    have L7 := A7.store (x' := .int .i64 k') (y' := .int .i64 n') (z' := .int .i64 p') rfl rfl rfl
    have A8 := A7.stored (.int .i64 k') (.int .i64 n') (.int .i64 p')
    have D8 : Hid (Dz (w.heap.size + 1 + 1) 19 w (w7.setCells q 0 [.int .i64 k', .int .i64 n', .int .i64 p'])) := D7.out.put hz3 _ _ _
    clear A7 D7
    go_upto_region 6 with (refine list_store (t := 24) (x := .pointer (some ⟨q, 0, none⟩)) (u := .agg #[.int .i64 k', .int .i64 n', .int .i64 p']) rfl rfl rfl rfl L7 ?_)
    simp only [Act.put]
    clear L7
    generalize w7.setCells q 0 [.int .i64 k', .int .i64 n', .int .i64 p'] = w8 at A8 D8 ⊢
    go_wp2_with fail
    have A2 := A8.drew
    have D3 : Hid (Dz (w.heap.size + 1 + 1) 19 w w8.drew) := D8.out.drew
    clear D8 A8
    refine wp_region_held (S := ArgAt q (.int .i64 k') (.int .i64 n') (.int .i64 p')) (by kernel_rfl) ?_
    refine held_any (fuel := 6) (i := 0) (v := .pointer (some ⟨w.heap.size + 1 + 1, 0, none⟩)) rfl (by kernel_rfl) (by kernel_rfl) (by kernel_rfl) rfl (fun _ _ _ h => h) (fun _ _ => rfl) A2 ?_
    go_simp
    refine held_load (fuel := 5) (i := 2) (t := 24) (v := .agg #[.int .i64 k', .int .i64 n', .int .i64 p']) rfl rfl rfl (by kernel_rfl) (by kernel_rfl) (by kernel_rfl) rfl (fun _ _ _ h => h) (fun w' hw' => hw'.load) A2 ?_
    go_simp
    refine held_any (fuel := 4) (i := 3) (v := .bool b) rfl (by kernel_rfl) (by kernel_rfl) (by kernel_rfl) rfl (fun _ _ _ h => h) (fun _ _ => rfl) A2 ?_
    go_simp
    refine wpAnyH_ready (rs := [1]) (by kernel_rfl) (by simp) ?_
    refine AllReadyH.cons rfl (fun K hK => ?_) AllReadyH.nil
    go_simp
    refine (draw_mem (w.heap.size + 1 + 1) 19 _ D3.out.rd (by omega)).mono ?_
    rintro e w13 ⟨m, hm, rfl, rd3, mv3⟩
    have A13 := A2.moved mv3 (by omega)
    have D14 : Hid (Dz (w.heap.size + 1 + 1) (19 + 200) w w13) := D3.out.call rd3 mv3
    clear rd3 mv3 D3 A2
    refine hK.out _ _ A13 (fun _ => ?_)
    clear hK K
    go_simp
    refine wpAnyH_ready (rs := [4]) (by kernel_rfl) (by simp) ?_
    refine AllReadyH.cons rfl (fun K hK => ?_) AllReadyH.nil
    rw [if_pos (by rfl)]
    have A4 := A13.other (c := w.heap.size) (o := 0) (vs := m.row.toList) (by omega)
    have M4 := D14.out.m.stored m
    have G4 := D14.out.g.other (c := w.heap.size) (o := 0) (vs := m.row.toList) (by omega)
    have B4 := setCells_below m.row.toList w.heap.size 0 D14.out.b (Nat.le_refl _)
    refine op_store rfl (store_mem m D14.out.m) ?_
    refine hK.out _ _ A4 (fun _ => ?_)
    clear hK K
    go_simp
    generalize w13.setCells w.heap.size 0 m.row.toList = w14 at A4 M4 G4 B4 ⊢
    have L5 := G4.store (x' := .int .i64 k') (y' := .int .i64 n') (z' := .int .i64 p') rfl rfl rfl
    refine wpAnyH_ready (rs := [5]) (by kernel_rfl) (by simp) ?_
    refine AllReadyH.cons rfl (fun K hK => ?_) AllReadyH.nil
    rw [if_pos (by rfl)]
    have A5 := A4.other (c := w.heap.size + 1) (o := 0) (vs := [.int .i64 k', .int .i64 n', .int .i64 p']) (by omega)
    have M5 := M4.other (c := w.heap.size + 1) (o := 0) (vs := [.int .i64 k', .int .i64 n', .int .i64 p']) (by omega)
    have G5 := G4.stored (.int .i64 k') (.int .i64 n') (.int .i64 p')
    have B5 := setCells_below [.int .i64 k', .int .i64 n', .int .i64 p'] (w.heap.size + 1) 0 B4 (by omega)
    refine op_store rfl L5 ?_
    refine hK.out _ _ A5 (fun _ => ?_)
    clear hK K L5 M4 G4 B4 A4
    go_simp
    generalize w14.setCells (w.heap.size + 1) 0 [.int .i64 k', .int .i64 n', .int .i64 p'] = w15 at A5 M5 G5 B5 ⊢
    refine wpAnyH_ready (rs := [6]) (by kernel_rfl) (by simp) ?_
    refine AllReadyH.cons rfl (fun K hK => ?_) AllReadyH.nil
    go_simp
    refine hK.out _ _ A5 (fun _ => ?_)
    clear hK K
    go_simp
    refine wpAnyH_done (by kernel_rfl) ?_ _
    go_wp2_with fail
    exact ret_three (c := 2) (c' := 3) (c'' := 4) rfl rfl rfl rfl rfl M5 G5 ⟨m, k', n', p', _, hm, rfl, B5⟩
  | false =>
    go_wp2_with fail
    have A2 := A5.drew
    have D3 : Hid (Dz (w.heap.size + 1 + 1) 14 w w5.drew) := D5.out.drew
    clear D5 A5
    refine wp_region_held (S := ArgAt q (.int .i64 k) (.int .i64 n) (.int .i64 p)) (by kernel_rfl) ?_
    refine held_any (fuel := 6) (i := 0) (v := .pointer (some ⟨w.heap.size + 1 + 1, 0, none⟩)) rfl (by kernel_rfl) (by kernel_rfl) (by kernel_rfl) rfl (fun _ _ _ h => h) (fun _ _ => rfl) A2 ?_
    go_simp
    refine held_load (fuel := 5) (i := 2) (t := 24) (v := .agg #[.int .i64 k, .int .i64 n, .int .i64 p]) rfl rfl rfl (by kernel_rfl) (by kernel_rfl) (by kernel_rfl) rfl (fun _ _ _ h => h) (fun w' hw' => hw'.load) A2 ?_
    go_simp
    refine held_any (fuel := 4) (i := 3) (v := .bool b) rfl (by kernel_rfl) (by kernel_rfl) (by kernel_rfl) rfl (fun _ _ _ h => h) (fun _ _ => rfl) A2 ?_
    go_simp
    refine wpAnyH_ready (rs := [1]) (by kernel_rfl) (by simp) ?_
    refine AllReadyH.cons rfl (fun K hK => ?_) AllReadyH.nil
    go_simp
    refine (draw_mem (w.heap.size + 1 + 1) 14 _ D3.out.rd (by omega)).mono ?_
    rintro e w13 ⟨m, hm, rfl, rd3, mv3⟩
    have A13 := A2.moved mv3 (by omega)
    have D14 : Hid (Dz (w.heap.size + 1 + 1) (14 + 200) w w13) := D3.out.call rd3 mv3
    clear rd3 mv3 D3 A2
    refine hK.out _ _ A13 (fun _ => ?_)
    clear hK K
    go_simp
    refine wpAnyH_ready (rs := [4]) (by kernel_rfl) (by simp) ?_
    refine AllReadyH.cons rfl (fun K hK => ?_) AllReadyH.nil
    rw [if_pos (by rfl)]
    have A4 := A13.other (c := w.heap.size) (o := 0) (vs := m.row.toList) (by omega)
    have M4 := D14.out.m.stored m
    have G4 := D14.out.g.other (c := w.heap.size) (o := 0) (vs := m.row.toList) (by omega)
    have B4 := setCells_below m.row.toList w.heap.size 0 D14.out.b (Nat.le_refl _)
    refine op_store rfl (store_mem m D14.out.m) ?_
    refine hK.out _ _ A4 (fun _ => ?_)
    clear hK K
    go_simp
    generalize w13.setCells w.heap.size 0 m.row.toList = w14 at A4 M4 G4 B4 ⊢
    have L5 := G4.store (x' := .int .i64 k) (y' := .int .i64 n) (z' := .int .i64 p) rfl rfl rfl
    refine wpAnyH_ready (rs := [5]) (by kernel_rfl) (by simp) ?_
    refine AllReadyH.cons rfl (fun K hK => ?_) AllReadyH.nil
    rw [if_pos (by rfl)]
    have A5 := A4.other (c := w.heap.size + 1) (o := 0) (vs := [.int .i64 k, .int .i64 n, .int .i64 p]) (by omega)
    have M5 := M4.other (c := w.heap.size + 1) (o := 0) (vs := [.int .i64 k, .int .i64 n, .int .i64 p]) (by omega)
    have G5 := G4.stored (.int .i64 k) (.int .i64 n) (.int .i64 p)
    have B5 := setCells_below [.int .i64 k, .int .i64 n, .int .i64 p] (w.heap.size + 1) 0 B4 (by omega)
    refine op_store rfl L5 ?_
    refine hK.out _ _ A5 (fun _ => ?_)
    clear hK K L5 M4 G4 B4 A4
    go_simp
    generalize w14.setCells (w.heap.size + 1) 0 [.int .i64 k, .int .i64 n, .int .i64 p] = w15 at A5 M5 G5 B5 ⊢
    refine wpAnyH_ready (rs := [6]) (by kernel_rfl) (by simp) ?_
    refine AllReadyH.cons rfl (fun K hK => ?_) AllReadyH.nil
    go_simp
    refine hK.out _ _ A5 (fun _ => ?_)
    clear hK K
    go_simp
    refine wpAnyH_done (by kernel_rfl) ?_ _
    go_wp2_with fail
    exact ret_three (c := 2) (c' := 3) (c'' := 4) rfl rfl rfl rfl rfl M5 G5 ⟨m, k, n, p, _, hm, rfl, B5⟩

end Go.Proofs.YtdhoimjkgicneaaDoor

/- A bit that is put: it is there, the others stand, and it can be put back. Of no one program's text. -/
namespace Go.Proofs.YtdhoimjkgicneaaDoor
open Go

theorem add_bit {y k : Nat} (h : y / 2 ^ k % 2 = 0) : (y + 2 ^ k) / 2 ^ k % 2 = 1 ∧ ∀ j, j ≠ k → (y + 2 ^ k) / 2 ^ j % 2 = y / 2 ^ j % 2 := by
  have hp : 0 < 2 ^ k := Nat.two_pow_pos k
  have e1 : (y + 2 ^ k) / 2 ^ k = y / 2 ^ k + 1 := Nat.add_div_right _ hp
  refine ⟨by rw [e1]; omega, fun j hj => ?_⟩
  rcases Nat.lt_or_gt_of_ne hj with hlt | hgt
  · have e2 : 2 ^ k = 2 ^ j * (2 * 2 ^ (k - 1 - j)) := by rw [← Nat.pow_succ', ← Nat.pow_add, show j + (k - 1 - j + 1) = k by omega]
    rw [e2, Nat.add_mul_div_left _ _ (Nat.two_pow_pos j)]
    omega
  · have e3 : 2 ^ j = 2 ^ k * (2 * 2 ^ (j - 1 - k)) := by rw [← Nat.pow_succ', ← Nat.pow_add, show k + (j - 1 - k + 1) = j by omega]
    rw [e3, ← Nat.div_div_eq_div_mul, ← Nat.div_div_eq_div_mul (m := y), e1, ← Nat.div_div_eq_div_mul, ← Nat.div_div_eq_div_mul (m := y / 2 ^ k), show (y / 2 ^ k + 1) / 2 = y / 2 ^ k / 2 by omega]

theorem turn_bit (x k : Nat) (b : Bool) : (turnN x k b / 2 ^ k % 2 == 1) = b ∧ (∀ j, j ≠ k → turnN x k b / 2 ^ j % 2 = x / 2 ^ j % 2) ∧ turnN (turnN x k b) k (x / 2 ^ k % 2 == 1) = x := by
  by_cases hb : (x / 2 ^ k % 2 == 1) = b
  · have e : turnN x k b = x := by unfold turnN; rw [if_pos hb]
    rw [e]
    exact ⟨hb, fun _ _ => rfl, by unfold turnN; rw [if_pos rfl]⟩
  · cases b with
    | true =>
      have h0 : x / 2 ^ k % 2 = 0 := by simp at hb; omega
      have e : turnN x k true = x + 2 ^ k := by unfold turnN; rw [if_neg hb, if_pos rfl]
      obtain ⟨h1, h2⟩ := add_bit h0
      rw [e]
      refine ⟨by rw [h1]; rfl, h2, ?_⟩
      unfold turnN
      rw [h1, h0, if_neg (by decide), if_neg (by decide)]
      omega
    | false =>
      have h0 : x / 2 ^ k % 2 = 1 := by simp at hb; omega
      have hle := turn_le h0
      have e : turnN x k false = x - 2 ^ k := by unfold turnN; rw [if_neg hb, if_neg (by decide)]
      obtain ⟨y, rfl⟩ : ∃ y, x = y + 2 ^ k := ⟨x - 2 ^ k, by omega⟩
      have hy : y / 2 ^ k % 2 = 0 := by
        have := Nat.add_div_right y (Nat.two_pow_pos k)
        rw [this] at h0
        omega
      obtain ⟨h1, h2⟩ := add_bit hy
      rw [e, Nat.add_sub_cancel]
      refine ⟨by rw [hy]; rfl, fun j hj => (h2 j hj).symm, ?_⟩
      unfold turnN
      rw [hy, h0, if_neg (by decide), if_pos (by decide)]

end Go.Proofs.YtdhoimjkgicneaaDoor
