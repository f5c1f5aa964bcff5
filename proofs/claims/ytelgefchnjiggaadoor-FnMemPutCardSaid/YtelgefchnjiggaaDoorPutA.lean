/- The law that a bit that is put changes that bit and nothing else, walked. -/
import Derived.Test.YtelgefchnjiggaaDoorRouA
import Derived.Test.YtelgefchnjiggaaDoorDrP
import Derived.Test.YtelgefchnjiggaaDoorPutQ
import Derived.Test.YtelgefchnjiggaaDoorPutA0
import Derived.Test.YtelgefchnjiggaaDoorRegH
import Derived.Test.YtelgefchnjiggaaDoorMemJ
import Derived.Test.YtelgefchnjiggaaDoorMsD
import Derived.Deep.RegionHeld
import Derived.Deep.CutRange
namespace Go.Proofs.YtelgefchnjiggaaDoor.PutB
open Go Go.RowKit

theorem same_self (v : MemV) : SameM v v := ⟨rfl, rfl, rfl, rfl, rfl, fun _ _ => rfl, fun _ _ => rfl, fun _ _ => rfl, fun _ _ => rfl, fun _ _ => rfl, fun _ _ => rfl, fun _ _ => same_refl _, rfl, rfl, rfl⟩

theorem same_true {a b : MemV} (ha : a.Ok) (hb : b.Ok) (h : SameM a b) (w : World) : Calls Tryd.prog 41 #[.agg a.row, .agg b.row] w fun e w' => e = .returned (.bool true) ∧ Below w.heap.size w w' :=
  (impl_same a b ha hb w).mono fun _ _ ⟨_, he, hq, hw⟩ => ⟨by rw [he, hq.2 h], hw⟩

theorem quiet_skip {ops : Array Oper} {C : World → Prop} {Q : Act → Prop} {rest : List Oper} {o : Oper} {a : Act} (hg : Region.wanted o (yielded ops a.tmps) = false) (h : wpQuiet Tryd.prog ops C Q rest (a.put o.dst undef)) : wpQuiet Tryd.prog ops C Q (o :: rest) a := by
  rw [wpQuiet, if_neg (by rw [hg]; exact Bool.false_ne_true)]
  exact h

theorem put_ok {v : MemV} {k : Int} (n : Int) (b : Bool) (hv : v.Ok) (h : 2 ≤ k ∧ k ≤ 5) : (putV v k n b).Ok := by
  rcases four h with rfl | rfl | rfl | rfl
  · have hl : (atZ 2 n).toNat < 32 := by show (n % 32).toNat < 32; omega
    exact ⟨hv.x, turn_small (s := 32) hv.y hl b, hv.m, hv.s, hv.e, hv.tC, hv.cC, hv.d1, hv.d2, hv.r, hv.time⟩
  · have hl : (atZ 3 n).toNat < 64 := by show (n % 64).toNat < 64; omega
    exact ⟨hv.x, hv.y, turn_small (s := 64) hv.m hl b, hv.s, hv.e, hv.tC, hv.cC, hv.d1, hv.d2, hv.r, hv.time⟩
  · have hl : (atZ 4 n).toNat < 16 := by show (n % 16).toNat < 16; omega
    exact ⟨hv.x, hv.y, hv.m, turn_small (s := 16) hv.s hl b, hv.e, hv.tC, hv.cC, hv.d1, hv.d2, hv.r, hv.time⟩
  · have hl : (atZ 5 n).toNat < 32 := by show (n % 32).toNat < 32; omega
    exact ⟨hv.x, hv.y, hv.m, hv.s, turn_small (s := 32) hv.e hl b, hv.tC, hv.cC, hv.d1, hv.d2, hv.r, hv.time⟩

/-- What is there behind the put: the memory, the operand, and the memory that was put. -/
structure Put5 (m r : MemV) (k n p : Int) (q q2 : Nat) (w wr : World) : Prop where
  M : MemAt q m wr
  P : MemAt q2 r wr
  G : ArgAt (q + 1) (.int .i64 k) (.int .i64 n) (.int .i64 p) wr
  b : Below w.heap.size w wr

theorem box_of {m : MemV} {k n p : Int} {q : Nat} {w w4 : World} (r : MemV) (hb : Below w.heap.size w w4) (M : MemAt q m w4) (G : ArgAt (q + 1) (.int .i64 k) (.int .i64 n) (.int .i64 p) w4) :
    MemAt w4.heap.size mem0 (w4.alloc (.cells Tryd.zeroCells61 61)) ∧
    (Instr.storeAt 61 (.pointer (some ⟨w4.heap.size, 0, none⟩)) (.agg r.row)).run Tryd.prog (w4.alloc (.cells Tryd.zeroCells61 61)) = .ok () ((w4.alloc (.cells Tryd.zeroCells61 61)).setCells w4.heap.size 0 r.row.toList) ∧
    Put5 m r k n p q w4.heap.size w ((w4.alloc (.cells Tryd.zeroCells61 61)).setCells w4.heap.size 0 r.row.toList) := by
  rw [zero_row]
  have h1 : Below w4.heap.size w4 (w4.alloc (.cells mem0.row 61)) := (Below.refl _ _).alloc (Nat.le_refl _) _
  have Z := MemAt.alloc mem0 w4 61
  have hz := M.z
  have gz := G.lt
  have hs := hb.size
  exact ⟨Z, store_mem r Z, (M.below h1 hz).other (by omega), Z.stored r, (G.below h1 gz).other (by omega), setCells_below _ _ _ (hb.alloc hs _) hs⟩

set_option maxRecDepth 100000 in
set_option maxHeartbeats 8000000 in
theorem law_short (a0 a1 : Option Addr) (l0 c0 l1 c1 : Nat) (w : World) (T : KTab w) (h0 : l0 ≤ 1048576) (h1 : l1 ≤ 1048576) (C0 : CodeAt (.slice a0 l0 c0) w) (C1 : CodeAt (.slice a1 l1 c1) w) :
    Calls Tryd.prog 8 #[.slice a0 l0 c0, .slice a1 l1 c1] w fun e w' => e = .returned (.bool true) ∧ Below w.heap.size w w' := by
  go_enter Tryd.func8, Tryd.ntmps8
  go_wp2_with fail
  refine (draw_put _ w C0).mono ?_
  rintro e w1 ⟨m, k, n, p, b, hm, rfl, hb⟩
  obtain ⟨Z, Y, D⟩ := drew_of (m := m) (k := k) (n := n) (p := p) hb 61 24
  have L1 := store_mem m Z
  have L2 := Y.store (x' := .int .i64 k) (y' := .int .i64 n) (z' := .int .i64 p) rfl rfl rfl
  have C1' := C1.below hb
  clear Z Y hb C0
  generalize ((((w1.alloc (.cells Tryd.zeroCells61 61)).alloc (.cells #[.int .i64 0, .int .i64 0, .int .i64 0] 24)).setCells w1.heap.size 0 m.row.toList).setCells (w1.heap.size + 1) 0 [.int .i64 k, .int .i64 n, .int .i64 p]) = w2 at D L2
  go_upto_region 4 with (refine list_store (t := 61) (x := .pointer (some ⟨w1.heap.size, 0, none⟩)) (u := .agg m.row) rfl rfl rfl rfl L1 ?_; refine list_store (t := 24) (x := .pointer (some ⟨w1.heap.size + 1, 0, none⟩)) (u := .agg #[.int .i64 k, .int .i64 n, .int .i64 p]) rfl rfl rfl rfl L2 ?_; simp only [Act.put]; clear L1 L2)
  generalize w1.heap.size = q at D ⊢
  obtain ⟨M, G, BW⟩ := D
  have g0 := G.c0
  have TT : ∀ w', Below w2.heap.size w2 w' → KTab w' := fun w' hw' => T.below (BW.trans (hw'.mono BW.size)) (Nat.le_refl _)
  obtain ⟨was, hwas⟩ : ∃ mb, mb = mbit m k n := ⟨_, rfl⟩
  have CW : ∀ w, KTab w → Calls Tryd.prog 39 #[.agg m.row, .agg #[.int .i64 k, .int .i64 n, .int .i64 p]] w fun e w' => e = .returned (.bool was) ∧ Below w.heap.size w w' := fun w T => hwas ▸ impl_membit m k n p w hm T
  have Hwas : Hid (was = mbit m k n) := hwas
  clear hwas
  obtain ⟨r, hr⟩ : ∃ r, r = putV m k n b := ⟨_, rfl⟩
  have CP : ∀ w, KTab w → Calls Tryd.prog 40 #[.agg m.row, .agg #[.int .i64 k, .int .i64 n, .int .i64 p], .bool b] w fun e w' => e = .returned (.agg r.row) ∧ Below w.heap.size w w' := fun w T => hr ▸ impl_memput m k n p b w hm T
  have Hr : Hid (r = putV m k n b) := hr
  clear hr
  go_upto_region 5 with (refine list_load (t := 61) rfl rfl rfl (load_mem M) ?_; refine list_load (t := 24) rfl rfl rfl G.load ?_)
  refine (CW w2 (TT w2 (Below.refl _ _))).mono ?_
  rintro e w3 ⟨rfl, hw3⟩
  have M3 := M.below hw3 M.z
  have G3 := G.below hw3 G.lt
  have BW3 := BW.trans (hw3.mono BW.size)
  have T3 : KTab w3 := T.below BW3 (Nat.le_refl _)
  clear M G BW TT hw3 g0 CW C1'
  go_upto_region 5 with fail
  go_upto_region 6 with (refine list_load (t := 61) rfl rfl rfl (load_mem M3) ?_; refine list_load (t := 24) rfl rfl rfl G3.load ?_)
  refine (CP w3 T3).mono ?_
  rintro e w4 ⟨rfl, hw4⟩
  have M4 := M3.below hw4 M3.z
  have G4 := G3.below hw4 G3.lt
  have BW4 := BW3.trans (hw4.mono BW3.size)
  clear M3 G3 BW3 T3 CP
  obtain ⟨Z, S, D5⟩ := box_of (m := m) (k := k) (n := n) (p := p) r BW4 M4 G4
  generalize ((w4.alloc (.cells Tryd.zeroCells61 61)).setCells w4.heap.size 0 r.row.toList) = w5 at D5 S
  clear hw4 M4 G4 BW4
  go_upto_region 6 with (refine list_store (t := 61) (x := .pointer (some ⟨w4.heap.size, 0, none⟩)) (u := .agg r.row) rfl rfl rfl rfl S ?_; simp only [Act.put]; clear S Z)
  generalize w4.heap.size = q2 at D5 ⊢
  obtain ⟨M5, P5, G5, BW5⟩ := D5
  by_cases hk : 2 ≤ k ∧ k ≤ 5
  · obtain ⟨hk1, hk2⟩ := hk
    have e1 : decide (k < 2) = false := by simp; omega
    have e2 : decide (5 < k) = false := by simp; omega
    have g0 := G5.c0
    go_upto_region 8 with fail
    go_wp2_with fail
    refine (draw_bit _ w5 (C1.below BW5)).mono ?_
    rintro e w6 ⟨m', k', n', p', hm', rfl, hb6⟩
    obtain ⟨Z, Y, D⟩ := drew_of (m := m') (k := k') (n := n') (p := p') hb6 61 24
    have L1 := store_mem m' Z
    have L2 := Y.store (x' := .int .i64 k') (y' := .int .i64 n') (z' := .int .i64 p') rfl rfl rfl
    clear Z Y hb6
    generalize ((((w6.alloc (.cells Tryd.zeroCells61 61)).alloc (.cells #[.int .i64 0, .int .i64 0, .int .i64 0] 24)).setCells w6.heap.size 0 m'.row.toList).setCells (w6.heap.size + 1) 0 [.int .i64 k', .int .i64 n', .int .i64 p']) = w7 at D L2
    go_upto_region 9 with (refine list_store (t := 61) (x := .pointer (some ⟨w6.heap.size, 0, none⟩)) (u := .agg m'.row) rfl rfl rfl rfl L1 ?_; refine list_store (t := 24) (x := .pointer (some ⟨w6.heap.size + 1, 0, none⟩)) (u := .agg #[.int .i64 k', .int .i64 n', .int .i64 p']) rfl rfl rfl rfl L2 ?_; simp only [Act.put]; clear L1 L2)
    generalize w6.heap.size = q6 at D ⊢
    obtain ⟨M7', O7, BW7'⟩ := D
    have M7 := M5.below BW7' M5.z
    have P7 := P5.below BW7' P5.z
    have G7 := G5.below BW7' G5.lt
    have BW7 := BW5.trans (BW7'.mono BW5.size)
    have T7 : KTab w7 := T.below BW7 (Nat.le_refl _)
    clear M7' BW7' M5 P5 G5 BW5 g0
    obtain ⟨nb, hnb⟩ : ∃ nb, nb = mbit m k' n' := ⟨_, rfl⟩
    have CN : ∀ w, KTab w → Calls Tryd.prog 39 #[.agg m.row, .agg #[.int .i64 k', .int .i64 n', .int .i64 p']] w fun e w' => e = .returned (.bool nb) ∧ Below w.heap.size w w' := fun w T => hnb ▸ impl_membit m k' n' p' w hm T
    have Hnb : Hid (nb = mbit m k' n') := hnb
    clear hnb
    go_upto_region 10 with (refine list_load (t := 61) rfl rfl rfl (load_mem M7) ?_; refine list_load (t := 24) rfl rfl rfl O7.load ?_)
    refine (CN w7 T7).mono ?_
    rintro e w8 ⟨rfl, hw8⟩
    have M := M7.below hw8 M7.z
    have P := P7.below hw8 P7.z
    have G := G7.below hw8 G7.lt
    have O := O7.below hw8 O7.lt
    have BW := BW7.trans (hw8.mono BW7.size)
    clear M7 P7 G7 O7 BW7 T7 hw8 CN
    go_upto_region 10 with fail
    have TT : ∀ w', Below w8.heap.size w8 w' → KTab w' := fun w' hw' => T.below (BW.trans (hw'.mono BW.size)) (Nat.le_refl _)
    obtain ⟨wz, hwz⟩ : ∃ wz, wz = wholeZ m k' n' := ⟨_, rfl⟩
    have hrm : r.Ok := by rw [Hr.out]; exact put_ok n b hm ⟨hk1, hk2⟩
    have W2 : ∀ w, KTab w → Calls Tryd.prog 43 #[.agg m.row, .agg #[.int .i64 k', .int .i64 n', .int .i64 p']] w fun e w' => e = .returned (.int .i16 wz) ∧ Below w.heap.size w w' := fun w T => hwz ▸ impl_memwhole m k' n' p' w hm T
    have hwz2 : wz = wholeZ r k' n' := by rw [hwz, Hr.out, put_whole]
    have W1 : ∀ w, KTab w → Calls Tryd.prog 43 #[.agg r.row, .agg #[.int .i64 k', .int .i64 n', .int .i64 p']] w fun e w' => e = .returned (.int .i16 wz) ∧ Below w.heap.size w w' := fun w T => hwz2 ▸ impl_memwhole r k' n' p' w hrm T
    clear hwz hwz2
    obtain ⟨oa, hoa⟩ : ∃ oa, oa = okB k n p := ⟨_, rfl⟩
    obtain ⟨oo, hoo⟩ : ∃ oo, oo = okB k' n' p' := ⟨_, rfl⟩
    have CA : ∀ w, Calls Tryd.prog 36 #[.agg #[.int .i64 k, .int .i64 n, .int .i64 p]] w fun e w' => e = .returned (.bool oa) ∧ Below w.heap.size w w' := fun w => hoa ▸ spec_ok k n p w
    have CO : ∀ w, Calls Tryd.prog 36 #[.agg #[.int .i64 k', .int .i64 n', .int .i64 p']] w fun e w' => e = .returned (.bool oo) ∧ Below w.heap.size w w' := fun w => hoo ▸ spec_ok k' n' p' w
    have CX : ∀ w, KTab w → Calls Tryd.prog 39 #[.agg r.row, .agg #[.int .i64 k, .int .i64 n, .int .i64 p]] w fun e w' => e = .returned (.bool b) ∧ Below w.heap.size w w' := by
      have h1 : mbit r k n = b := by rw [Hr.out]; exact put_bit m n b ⟨hk1, hk2⟩
      exact fun w T => h1 ▸ impl_membit r k n p w hrm T
    have CY : ∀ w, KTab w → Calls Tryd.prog 40 #[.agg r.row, .agg #[.int .i64 k, .int .i64 n, .int .i64 p], .bool was] w fun e w' => e = .returned (.agg m.row) ∧ Below w.heap.size w w' := by
      have h1 : putV r k n was = m := by rw [Hr.out, Hwas.out]; exact put_back m n b ⟨hk1, hk2⟩
      intro w T
      have h2 := impl_memput r k n p was w hrm T
      rw [h1] at h2
      exact h2
    have CZ : ∀ w, Calls Tryd.prog 41 #[.agg m.row, .agg m.row] w fun e w' => e = .returned (.bool true) ∧ Below w.heap.size w w' := fun w => same_true hm hm (same_self m) w
    cases oa with
    | false =>
      clear hoa hoo
      refine wp_region_belowM (by kernel_rfl) (by kernel_rfl) ?_
      refine quiet_load (t := 24) (v := (.agg #[.int .i64 k, .int .i64 n, .int .i64 p])) rfl rfl rfl (fun w' hw' => (G.below hw' G.lt).load) ?_
      go_simp
      refine wpQuiet_step (fun K hK => ?_)
      go_simp
      refine ⟨(.bool false), fun w' hw' => (CA w').mono fun e w'' ⟨he, hb⟩ => ⟨he, hw'.trans (hb.mono hw'.size)⟩, hK _ ?_⟩
      clear hK K
      quiet_step (exact fun _ => rfl)
      refine quiet_skip rfl ?_
      go_simp
      refine quiet_skip rfl ?_
      go_simp
      quiet_step (exact fun _ => rfl)
      quiet_step (exact fun _ => rfl)
      refine quiet_skip rfl ?_
      go_simp
      refine quiet_skip rfl ?_
      go_simp
      refine quiet_skip rfl ?_
      go_simp
      quiet_step (exact fun _ => rfl)
      quiet_step (exact fun _ => rfl)
      refine quiet_skip rfl ?_
      go_simp
      refine quiet_skip rfl ?_
      go_simp
      refine quiet_skip rfl ?_
      go_simp
      refine quiet_skip rfl ?_
      go_simp
      refine quiet_skip rfl ?_
      go_simp
      quiet_step (exact fun _ => rfl)
      quiet_step (exact fun _ => rfl)
      refine quiet_load (t := 61) (v := .agg r.row) rfl rfl rfl (fun w' hw' => load_mem (P.below hw' P.z)) ?_
      go_simp
      refine quiet_load (t := 24) (v := (.agg #[.int .i64 k', .int .i64 n', .int .i64 p'])) rfl rfl rfl (fun w' hw' => (O.below hw' O.lt).load) ?_
      go_simp
      refine wpQuiet_step (fun K hK => ?_)
      go_simp
      refine ⟨(.int .i16 wz), fun w' hw' => (W1 w' (TT w' hw')).mono fun e w'' ⟨he, hb⟩ => ⟨he, hw'.trans (hb.mono hw'.size)⟩, hK _ ?_⟩
      clear hK K
      refine quiet_load (t := 61) (v := .agg m.row) rfl rfl rfl (fun w' hw' => load_mem (M.below hw' M.z)) ?_
      go_simp
      refine quiet_load (t := 24) (v := (.agg #[.int .i64 k', .int .i64 n', .int .i64 p'])) rfl rfl rfl (fun w' hw' => (O.below hw' O.lt).load) ?_
      go_simp
      refine wpQuiet_step (fun K hK => ?_)
      go_simp
      refine ⟨(.int .i16 wz), fun w' hw' => (W2 w' (TT w' hw')).mono fun e w'' ⟨he, hb⟩ => ⟨he, hw'.trans (hb.mono hw'.size)⟩, hK _ ?_⟩
      clear hK K
      refine wpQuiet_step (fun K hK => ?_)
      go_simp
      refine ⟨.bool false, fun _ _ => by simp, hK _ ?_⟩
      clear hK K
      quiet_step (exact fun _ => rfl)
      refine wpQuiet_nil ?_
      intro w9 hw9
      have M9 := M.below hw9 M.z
      have P9 := P.below hw9 P.z
      have G9 := G.below hw9 G.lt
      have BW9 := BW.trans (hw9.mono BW.size)
      clear M P G O BW TT CA CO W1 W2 hw9
      go_upto_region 12 with fail
      have TT : ∀ w', Below w9.heap.size w9 w' → KTab w' := fun w' hw' => T.below (BW9.trans (hw'.mono BW9.size)) (Nat.le_refl _)
      refine wp_region_belowM (by kernel_rfl) (by kernel_rfl) ?_
      refine quiet_load (t := 61) (v := .agg r.row) rfl rfl rfl (fun w' hw' => load_mem (P9.below hw' P9.z)) ?_
      go_simp
      refine quiet_load (t := 24) (v := (.agg #[.int .i64 k, .int .i64 n, .int .i64 p])) rfl rfl rfl (fun w' hw' => (G9.below hw' G9.lt).load) ?_
      go_simp
      refine wpQuiet_step (fun K hK => ?_)
      go_simp
      refine ⟨(.bool b), fun w' hw' => (CX w' (TT w' hw')).mono fun e w'' ⟨he, hb⟩ => ⟨he, hw'.trans (hb.mono hw'.size)⟩, hK _ ?_⟩
      clear hK K
      quiet_step (exact fun _ => rfl)
      refine wpQuiet_step (fun K hK => ?_)
      go_simp
      refine ⟨.bool true, fun _ _ => by simp, hK _ ?_⟩
      clear hK K
      quiet_step (exact fun _ => rfl)
      refine quiet_load (t := 61) (v := .agg r.row) rfl rfl rfl (fun w' hw' => load_mem (P9.below hw' P9.z)) ?_
      go_simp
      refine quiet_load (t := 24) (v := (.agg #[.int .i64 k, .int .i64 n, .int .i64 p])) rfl rfl rfl (fun w' hw' => (G9.below hw' G9.lt).load) ?_
      go_simp
      quiet_step (exact fun _ => rfl)
      refine wpQuiet_step (fun K hK => ?_)
      go_simp
      refine ⟨(.agg m.row), fun w' hw' => (CY w' (TT w' hw')).mono fun e w'' ⟨he, hb⟩ => ⟨he, hw'.trans (hb.mono hw'.size)⟩, hK _ ?_⟩
      clear hK K
      refine quiet_load (t := 61) (v := .agg m.row) rfl rfl rfl (fun w' hw' => load_mem (M9.below hw' M9.z)) ?_
      go_simp
      refine wpQuiet_step (fun K hK => ?_)
      go_simp
      refine ⟨(.bool true), fun w' hw' => (CZ w').mono fun e w'' ⟨he, hb⟩ => ⟨he, hw'.trans (hb.mono hw'.size)⟩, hK _ ?_⟩
      clear hK K
      quiet_step (exact fun _ => rfl)
      quiet_step (exact fun _ => rfl)
      refine wpQuiet_nil ?_
      intro w10 hw10
      have BW10 := BW9.trans (hw10.mono BW9.size)
      clear hw10 TT M9 P9 G9 BW9 CX CY CZ
      go_wp2_with fail
      go_ret
      exact ⟨rfl, BW10⟩
    | true =>
      cases oo with
      | false =>
        clear hoa hoo
        refine wp_region_belowM (by kernel_rfl) (by kernel_rfl) ?_
        refine quiet_load (t := 24) (v := (.agg #[.int .i64 k, .int .i64 n, .int .i64 p])) rfl rfl rfl (fun w' hw' => (G.below hw' G.lt).load) ?_
        go_simp
        refine wpQuiet_step (fun K hK => ?_)
        go_simp
        refine ⟨(.bool true), fun w' hw' => (CA w').mono fun e w'' ⟨he, hb⟩ => ⟨he, hw'.trans (hb.mono hw'.size)⟩, hK _ ?_⟩
        clear hK K
        quiet_step (exact fun _ => rfl)
        refine quiet_load (t := 24) (v := (.agg #[.int .i64 k', .int .i64 n', .int .i64 p'])) rfl rfl rfl (fun w' hw' => (O.below hw' O.lt).load) ?_
        go_simp
        refine wpQuiet_step (fun K hK => ?_)
        go_simp
        refine ⟨(.bool false), fun w' hw' => (CO w').mono fun e w'' ⟨he, hb⟩ => ⟨he, hw'.trans (hb.mono hw'.size)⟩, hK _ ?_⟩
        clear hK K
        quiet_step (exact fun _ => rfl)
        quiet_step (exact fun _ => rfl)
        refine quiet_skip rfl ?_
        go_simp
        refine quiet_skip rfl ?_
        go_simp
        refine quiet_skip rfl ?_
        go_simp
        quiet_step (exact fun _ => rfl)
        quiet_step (exact fun _ => rfl)
        refine quiet_skip rfl ?_
        go_simp
        refine quiet_skip rfl ?_
        go_simp
        refine quiet_skip rfl ?_
        go_simp
        refine quiet_skip rfl ?_
        go_simp
        refine quiet_skip rfl ?_
        go_simp
        quiet_step (exact fun _ => rfl)
        quiet_step (exact fun _ => rfl)
        refine quiet_load (t := 61) (v := .agg r.row) rfl rfl rfl (fun w' hw' => load_mem (P.below hw' P.z)) ?_
        go_simp
        refine quiet_load (t := 24) (v := (.agg #[.int .i64 k', .int .i64 n', .int .i64 p'])) rfl rfl rfl (fun w' hw' => (O.below hw' O.lt).load) ?_
        go_simp
        refine wpQuiet_step (fun K hK => ?_)
        go_simp
        refine ⟨(.int .i16 wz), fun w' hw' => (W1 w' (TT w' hw')).mono fun e w'' ⟨he, hb⟩ => ⟨he, hw'.trans (hb.mono hw'.size)⟩, hK _ ?_⟩
        clear hK K
        refine quiet_load (t := 61) (v := .agg m.row) rfl rfl rfl (fun w' hw' => load_mem (M.below hw' M.z)) ?_
        go_simp
        refine quiet_load (t := 24) (v := (.agg #[.int .i64 k', .int .i64 n', .int .i64 p'])) rfl rfl rfl (fun w' hw' => (O.below hw' O.lt).load) ?_
        go_simp
        refine wpQuiet_step (fun K hK => ?_)
        go_simp
        refine ⟨(.int .i16 wz), fun w' hw' => (W2 w' (TT w' hw')).mono fun e w'' ⟨he, hb⟩ => ⟨he, hw'.trans (hb.mono hw'.size)⟩, hK _ ?_⟩
        clear hK K
        refine wpQuiet_step (fun K hK => ?_)
        go_simp
        refine ⟨.bool false, fun _ _ => by simp, hK _ ?_⟩
        clear hK K
        quiet_step (exact fun _ => rfl)
        refine wpQuiet_nil ?_
        intro w9 hw9
        have M9 := M.below hw9 M.z
        have P9 := P.below hw9 P.z
        have G9 := G.below hw9 G.lt
        have BW9 := BW.trans (hw9.mono BW.size)
        clear M P G O BW TT CA CO W1 W2 hw9
        go_upto_region 12 with fail
        have TT : ∀ w', Below w9.heap.size w9 w' → KTab w' := fun w' hw' => T.below (BW9.trans (hw'.mono BW9.size)) (Nat.le_refl _)
        refine wp_region_belowM (by kernel_rfl) (by kernel_rfl) ?_
        refine quiet_load (t := 61) (v := .agg r.row) rfl rfl rfl (fun w' hw' => load_mem (P9.below hw' P9.z)) ?_
        go_simp
        refine quiet_load (t := 24) (v := (.agg #[.int .i64 k, .int .i64 n, .int .i64 p])) rfl rfl rfl (fun w' hw' => (G9.below hw' G9.lt).load) ?_
        go_simp
        refine wpQuiet_step (fun K hK => ?_)
        go_simp
        refine ⟨(.bool b), fun w' hw' => (CX w' (TT w' hw')).mono fun e w'' ⟨he, hb⟩ => ⟨he, hw'.trans (hb.mono hw'.size)⟩, hK _ ?_⟩
        clear hK K
        quiet_step (exact fun _ => rfl)
        refine wpQuiet_step (fun K hK => ?_)
        go_simp
        refine ⟨.bool true, fun _ _ => by simp, hK _ ?_⟩
        clear hK K
        quiet_step (exact fun _ => rfl)
        refine quiet_load (t := 61) (v := .agg r.row) rfl rfl rfl (fun w' hw' => load_mem (P9.below hw' P9.z)) ?_
        go_simp
        refine quiet_load (t := 24) (v := (.agg #[.int .i64 k, .int .i64 n, .int .i64 p])) rfl rfl rfl (fun w' hw' => (G9.below hw' G9.lt).load) ?_
        go_simp
        quiet_step (exact fun _ => rfl)
        refine wpQuiet_step (fun K hK => ?_)
        go_simp
        refine ⟨(.agg m.row), fun w' hw' => (CY w' (TT w' hw')).mono fun e w'' ⟨he, hb⟩ => ⟨he, hw'.trans (hb.mono hw'.size)⟩, hK _ ?_⟩
        clear hK K
        refine quiet_load (t := 61) (v := .agg m.row) rfl rfl rfl (fun w' hw' => load_mem (M9.below hw' M9.z)) ?_
        go_simp
        refine wpQuiet_step (fun K hK => ?_)
        go_simp
        refine ⟨(.bool true), fun w' hw' => (CZ w').mono fun e w'' ⟨he, hb⟩ => ⟨he, hw'.trans (hb.mono hw'.size)⟩, hK _ ?_⟩
        clear hK K
        quiet_step (exact fun _ => rfl)
        quiet_step (exact fun _ => rfl)
        refine wpQuiet_nil ?_
        intro w10 hw10
        have BW10 := BW9.trans (hw10.mono BW9.size)
        clear hw10 TT M9 P9 G9 BW9 CX CY CZ
        go_wp2_with fail
        go_ret
        exact ⟨rfl, BW10⟩
      | true =>
        cases hq : decide (k' = k ∧ n' = n ∧ p' = p) with
        | true =>
          clear hoa hoo
          refine wp_region_belowM (by kernel_rfl) (by kernel_rfl) ?_
          refine quiet_load (t := 24) (v := (.agg #[.int .i64 k, .int .i64 n, .int .i64 p])) rfl rfl rfl (fun w' hw' => (G.below hw' G.lt).load) ?_
          go_simp
          refine wpQuiet_step (fun K hK => ?_)
          go_simp
          refine ⟨(.bool true), fun w' hw' => (CA w').mono fun e w'' ⟨he, hb⟩ => ⟨he, hw'.trans (hb.mono hw'.size)⟩, hK _ ?_⟩
          clear hK K
          quiet_step (exact fun _ => rfl)
          refine quiet_load (t := 24) (v := (.agg #[.int .i64 k', .int .i64 n', .int .i64 p'])) rfl rfl rfl (fun w' hw' => (O.below hw' O.lt).load) ?_
          go_simp
          refine wpQuiet_step (fun K hK => ?_)
          go_simp
          refine ⟨(.bool true), fun w' hw' => (CO w').mono fun e w'' ⟨he, hb⟩ => ⟨he, hw'.trans (hb.mono hw'.size)⟩, hK _ ?_⟩
          clear hK K
          quiet_step (exact fun _ => rfl)
          quiet_step (exact fun _ => rfl)
          refine quiet_load (t := 24) (v := (.agg #[.int .i64 k', .int .i64 n', .int .i64 p'])) rfl rfl rfl (fun w' hw' => (O.below hw' O.lt).load) ?_
          go_simp
          refine quiet_load (t := 24) (v := (.agg #[.int .i64 k, .int .i64 n, .int .i64 p])) rfl rfl rfl (fun w' hw' => (G.below hw' G.lt).load) ?_
          go_simp
          refine quiet_bin (op := .neq) (t := 24) (u1 := .agg #[.int .i64 k', .int .i64 n', .int .i64 p']) (u2 := .agg #[.int .i64 k, .int .i64 n, .int .i64 p]) (v := .bool false) rfl rfl rfl rfl (fun w' => run_eqGuard_agg w' _ _ _ _ _ _ (by kernel_rfl)) (fun w' => (neq_arg k n p k' n' p' w').trans (by rw [hq]; rfl)) ?_
          go_simp
          quiet_step (exact fun _ => rfl)
          quiet_step (exact fun _ => rfl)
          refine quiet_skip rfl ?_
          go_simp
          refine quiet_skip rfl ?_
          go_simp
          refine quiet_skip rfl ?_
          go_simp
          refine quiet_skip rfl ?_
          go_simp
          refine quiet_skip rfl ?_
          go_simp
          quiet_step (exact fun _ => rfl)
          quiet_step (exact fun _ => rfl)
          refine quiet_load (t := 61) (v := .agg r.row) rfl rfl rfl (fun w' hw' => load_mem (P.below hw' P.z)) ?_
          go_simp
          refine quiet_load (t := 24) (v := (.agg #[.int .i64 k', .int .i64 n', .int .i64 p'])) rfl rfl rfl (fun w' hw' => (O.below hw' O.lt).load) ?_
          go_simp
          refine wpQuiet_step (fun K hK => ?_)
          go_simp
          refine ⟨(.int .i16 wz), fun w' hw' => (W1 w' (TT w' hw')).mono fun e w'' ⟨he, hb⟩ => ⟨he, hw'.trans (hb.mono hw'.size)⟩, hK _ ?_⟩
          clear hK K
          refine quiet_load (t := 61) (v := .agg m.row) rfl rfl rfl (fun w' hw' => load_mem (M.below hw' M.z)) ?_
          go_simp
          refine quiet_load (t := 24) (v := (.agg #[.int .i64 k', .int .i64 n', .int .i64 p'])) rfl rfl rfl (fun w' hw' => (O.below hw' O.lt).load) ?_
          go_simp
          refine wpQuiet_step (fun K hK => ?_)
          go_simp
          refine ⟨(.int .i16 wz), fun w' hw' => (W2 w' (TT w' hw')).mono fun e w'' ⟨he, hb⟩ => ⟨he, hw'.trans (hb.mono hw'.size)⟩, hK _ ?_⟩
          clear hK K
          refine wpQuiet_step (fun K hK => ?_)
          go_simp
          refine ⟨.bool false, fun _ _ => by simp, hK _ ?_⟩
          clear hK K
          quiet_step (exact fun _ => rfl)
          refine wpQuiet_nil ?_
          intro w9 hw9
          have M9 := M.below hw9 M.z
          have P9 := P.below hw9 P.z
          have G9 := G.below hw9 G.lt
          have BW9 := BW.trans (hw9.mono BW.size)
          clear M P G O BW TT CA CO W1 W2 hw9
          go_upto_region 12 with fail
          have TT : ∀ w', Below w9.heap.size w9 w' → KTab w' := fun w' hw' => T.below (BW9.trans (hw'.mono BW9.size)) (Nat.le_refl _)
          refine wp_region_belowM (by kernel_rfl) (by kernel_rfl) ?_
          refine quiet_load (t := 61) (v := .agg r.row) rfl rfl rfl (fun w' hw' => load_mem (P9.below hw' P9.z)) ?_
          go_simp
          refine quiet_load (t := 24) (v := (.agg #[.int .i64 k, .int .i64 n, .int .i64 p])) rfl rfl rfl (fun w' hw' => (G9.below hw' G9.lt).load) ?_
          go_simp
          refine wpQuiet_step (fun K hK => ?_)
          go_simp
          refine ⟨(.bool b), fun w' hw' => (CX w' (TT w' hw')).mono fun e w'' ⟨he, hb⟩ => ⟨he, hw'.trans (hb.mono hw'.size)⟩, hK _ ?_⟩
          clear hK K
          quiet_step (exact fun _ => rfl)
          refine wpQuiet_step (fun K hK => ?_)
          go_simp
          refine ⟨.bool true, fun _ _ => by simp, hK _ ?_⟩
          clear hK K
          quiet_step (exact fun _ => rfl)
          refine quiet_load (t := 61) (v := .agg r.row) rfl rfl rfl (fun w' hw' => load_mem (P9.below hw' P9.z)) ?_
          go_simp
          refine quiet_load (t := 24) (v := (.agg #[.int .i64 k, .int .i64 n, .int .i64 p])) rfl rfl rfl (fun w' hw' => (G9.below hw' G9.lt).load) ?_
          go_simp
          quiet_step (exact fun _ => rfl)
          refine wpQuiet_step (fun K hK => ?_)
          go_simp
          refine ⟨(.agg m.row), fun w' hw' => (CY w' (TT w' hw')).mono fun e w'' ⟨he, hb⟩ => ⟨he, hw'.trans (hb.mono hw'.size)⟩, hK _ ?_⟩
          clear hK K
          refine quiet_load (t := 61) (v := .agg m.row) rfl rfl rfl (fun w' hw' => load_mem (M9.below hw' M9.z)) ?_
          go_simp
          refine wpQuiet_step (fun K hK => ?_)
          go_simp
          refine ⟨(.bool true), fun w' hw' => (CZ w').mono fun e w'' ⟨he, hb⟩ => ⟨he, hw'.trans (hb.mono hw'.size)⟩, hK _ ?_⟩
          clear hK K
          quiet_step (exact fun _ => rfl)
          quiet_step (exact fun _ => rfl)
          refine wpQuiet_nil ?_
          intro w10 hw10
          have BW10 := BW9.trans (hw10.mono BW9.size)
          clear hw10 TT M9 P9 G9 BW9 CX CY CZ
          go_wp2_with fail
          go_ret
          exact ⟨rfl, BW10⟩
        | false =>
          have CB : ∀ w, KTab w → Calls Tryd.prog 39 #[.agg r.row, .agg #[.int .i64 k', .int .i64 n', .int .i64 p']] w fun e w' => e = .returned (.bool nb) ∧ Below w.heap.size w w' := by
            have h1 : nb = mbit r k' n' := by rw [Hnb.out, Hr.out]; exact (put_other m b ⟨hk1, hk2⟩ hoa.symm hoo.symm (by simpa using hq)).symm
            exact fun w T => h1 ▸ impl_membit r k' n' p' w hrm T
          clear hoa hoo
          refine wp_region_belowM (by kernel_rfl) (by kernel_rfl) ?_
          refine quiet_load (t := 24) (v := (.agg #[.int .i64 k, .int .i64 n, .int .i64 p])) rfl rfl rfl (fun w' hw' => (G.below hw' G.lt).load) ?_
          go_simp
          refine wpQuiet_step (fun K hK => ?_)
          go_simp
          refine ⟨(.bool true), fun w' hw' => (CA w').mono fun e w'' ⟨he, hb⟩ => ⟨he, hw'.trans (hb.mono hw'.size)⟩, hK _ ?_⟩
          clear hK K
          quiet_step (exact fun _ => rfl)
          refine quiet_load (t := 24) (v := (.agg #[.int .i64 k', .int .i64 n', .int .i64 p'])) rfl rfl rfl (fun w' hw' => (O.below hw' O.lt).load) ?_
          go_simp
          refine wpQuiet_step (fun K hK => ?_)
          go_simp
          refine ⟨(.bool true), fun w' hw' => (CO w').mono fun e w'' ⟨he, hb⟩ => ⟨he, hw'.trans (hb.mono hw'.size)⟩, hK _ ?_⟩
          clear hK K
          quiet_step (exact fun _ => rfl)
          quiet_step (exact fun _ => rfl)
          refine quiet_load (t := 24) (v := (.agg #[.int .i64 k', .int .i64 n', .int .i64 p'])) rfl rfl rfl (fun w' hw' => (O.below hw' O.lt).load) ?_
          go_simp
          refine quiet_load (t := 24) (v := (.agg #[.int .i64 k, .int .i64 n, .int .i64 p])) rfl rfl rfl (fun w' hw' => (G.below hw' G.lt).load) ?_
          go_simp
          refine quiet_bin (op := .neq) (t := 24) (u1 := .agg #[.int .i64 k', .int .i64 n', .int .i64 p']) (u2 := .agg #[.int .i64 k, .int .i64 n, .int .i64 p]) (v := .bool true) rfl rfl rfl rfl (fun w' => run_eqGuard_agg w' _ _ _ _ _ _ (by kernel_rfl)) (fun w' => (neq_arg k n p k' n' p' w').trans (by rw [hq]; rfl)) ?_
          go_simp
          quiet_step (exact fun _ => rfl)
          quiet_step (exact fun _ => rfl)
          refine quiet_load (t := 61) (v := .agg r.row) rfl rfl rfl (fun w' hw' => load_mem (P.below hw' P.z)) ?_
          go_simp
          refine quiet_load (t := 24) (v := (.agg #[.int .i64 k', .int .i64 n', .int .i64 p'])) rfl rfl rfl (fun w' hw' => (O.below hw' O.lt).load) ?_
          go_simp
          refine wpQuiet_step (fun K hK => ?_)
          go_simp
          refine ⟨(.bool nb), fun w' hw' => (CB w' (TT w' hw')).mono fun e w'' ⟨he, hb⟩ => ⟨he, hw'.trans (hb.mono hw'.size)⟩, hK _ ?_⟩
          clear hK K
          quiet_step (exact fun _ => rfl)
          refine wpQuiet_step (fun K hK => ?_)
          go_simp
          refine ⟨.bool false, fun _ _ => by simp, hK _ ?_⟩
          clear hK K
          quiet_step (exact fun _ => rfl)
          quiet_step (exact fun _ => rfl)
          refine quiet_load (t := 61) (v := .agg r.row) rfl rfl rfl (fun w' hw' => load_mem (P.below hw' P.z)) ?_
          go_simp
          refine quiet_load (t := 24) (v := (.agg #[.int .i64 k', .int .i64 n', .int .i64 p'])) rfl rfl rfl (fun w' hw' => (O.below hw' O.lt).load) ?_
          go_simp
          refine wpQuiet_step (fun K hK => ?_)
          go_simp
          refine ⟨(.int .i16 wz), fun w' hw' => (W1 w' (TT w' hw')).mono fun e w'' ⟨he, hb⟩ => ⟨he, hw'.trans (hb.mono hw'.size)⟩, hK _ ?_⟩
          clear hK K
          refine quiet_load (t := 61) (v := .agg m.row) rfl rfl rfl (fun w' hw' => load_mem (M.below hw' M.z)) ?_
          go_simp
          refine quiet_load (t := 24) (v := (.agg #[.int .i64 k', .int .i64 n', .int .i64 p'])) rfl rfl rfl (fun w' hw' => (O.below hw' O.lt).load) ?_
          go_simp
          refine wpQuiet_step (fun K hK => ?_)
          go_simp
          refine ⟨(.int .i16 wz), fun w' hw' => (W2 w' (TT w' hw')).mono fun e w'' ⟨he, hb⟩ => ⟨he, hw'.trans (hb.mono hw'.size)⟩, hK _ ?_⟩
          clear hK K
          refine wpQuiet_step (fun K hK => ?_)
          go_simp
          refine ⟨.bool false, fun _ _ => by simp, hK _ ?_⟩
          clear hK K
          quiet_step (exact fun _ => rfl)
          refine wpQuiet_nil ?_
          intro w9 hw9
          have M9 := M.below hw9 M.z
          have P9 := P.below hw9 P.z
          have G9 := G.below hw9 G.lt
          have BW9 := BW.trans (hw9.mono BW.size)
          clear M P G O BW TT CA CO W1 W2 hw9
          go_upto_region 12 with fail
          have TT : ∀ w', Below w9.heap.size w9 w' → KTab w' := fun w' hw' => T.below (BW9.trans (hw'.mono BW9.size)) (Nat.le_refl _)
          refine wp_region_belowM (by kernel_rfl) (by kernel_rfl) ?_
          refine quiet_load (t := 61) (v := .agg r.row) rfl rfl rfl (fun w' hw' => load_mem (P9.below hw' P9.z)) ?_
          go_simp
          refine quiet_load (t := 24) (v := (.agg #[.int .i64 k, .int .i64 n, .int .i64 p])) rfl rfl rfl (fun w' hw' => (G9.below hw' G9.lt).load) ?_
          go_simp
          refine wpQuiet_step (fun K hK => ?_)
          go_simp
          refine ⟨(.bool b), fun w' hw' => (CX w' (TT w' hw')).mono fun e w'' ⟨he, hb⟩ => ⟨he, hw'.trans (hb.mono hw'.size)⟩, hK _ ?_⟩
          clear hK K
          quiet_step (exact fun _ => rfl)
          refine wpQuiet_step (fun K hK => ?_)
          go_simp
          refine ⟨.bool true, fun _ _ => by simp, hK _ ?_⟩
          clear hK K
          quiet_step (exact fun _ => rfl)
          refine quiet_load (t := 61) (v := .agg r.row) rfl rfl rfl (fun w' hw' => load_mem (P9.below hw' P9.z)) ?_
          go_simp
          refine quiet_load (t := 24) (v := (.agg #[.int .i64 k, .int .i64 n, .int .i64 p])) rfl rfl rfl (fun w' hw' => (G9.below hw' G9.lt).load) ?_
          go_simp
          quiet_step (exact fun _ => rfl)
          refine wpQuiet_step (fun K hK => ?_)
          go_simp
          refine ⟨(.agg m.row), fun w' hw' => (CY w' (TT w' hw')).mono fun e w'' ⟨he, hb⟩ => ⟨he, hw'.trans (hb.mono hw'.size)⟩, hK _ ?_⟩
          clear hK K
          refine quiet_load (t := 61) (v := .agg m.row) rfl rfl rfl (fun w' hw' => load_mem (M9.below hw' M9.z)) ?_
          go_simp
          refine wpQuiet_step (fun K hK => ?_)
          go_simp
          refine ⟨(.bool true), fun w' hw' => (CZ w').mono fun e w'' ⟨he, hb⟩ => ⟨he, hw'.trans (hb.mono hw'.size)⟩, hK _ ?_⟩
          clear hK K
          quiet_step (exact fun _ => rfl)
          quiet_step (exact fun _ => rfl)
          refine wpQuiet_nil ?_
          intro w10 hw10
          have BW10 := BW9.trans (hw10.mono BW9.size)
          clear hw10 TT M9 P9 G9 BW9 CX CY CZ
          go_wp2_with fail
          go_ret
          exact ⟨rfl, BW10⟩
  · have e0 : r = m := Hr.out.trans (put_none m b hk)
    have CS : ∀ w, Calls Tryd.prog 41 #[.agg r.row, .agg m.row] w fun e w' => e = .returned (.bool true) ∧ Below w.heap.size w w' := fun w => same_true (e0 ▸ hm) hm (e0 ▸ same_self r) w
    clear e0
    have g0 := G5.c0
    by_cases h2 : k < 2
    · have e1 : decide (k < 2) = true := by simpa using h2
      go_upto_region 7 with fail
      go_wp2_with (refine list_load (t := 61) rfl rfl rfl (load_mem P5) ?_; refine list_load (t := 61) rfl rfl rfl (load_mem M5) ?_)
      refine (CS w5).mono ?_
      rintro e w6 ⟨rfl, hb6⟩
      have BW6 := BW5.trans (hb6.mono BW5.size)
      clear M5 P5 G5 BW5 hb6 CS
      go_wp2_with fail
      go_ret
      exact ⟨rfl, BW6⟩
    · have e1 : decide (k < 2) = false := by simpa using h2
      have e2 : decide (5 < k) = true := by simp; omega
      go_upto_region 7 with fail
      go_wp2_with (refine list_load (t := 61) rfl rfl rfl (load_mem P5) ?_; refine list_load (t := 61) rfl rfl rfl (load_mem M5) ?_)
      refine (CS w5).mono ?_
      rintro e w6 ⟨rfl, hb6⟩
      have BW6 := BW5.trans (hb6.mono BW5.size)
      clear M5 P5 G5 BW5 hb6 CS
      go_wp2_with fail
      go_ret
      exact ⟨rfl, BW6⟩

set_option maxHeartbeats 400000 in
theorem law_long (a0 a1 : Option Addr) (l0 c0 l1 c1 : Nat) (w : World) (h : 1048576 < l0 ∨ 1048576 < l1) :
    Calls Tryd.prog 8 #[.slice a0 l0 c0, .slice a1 l1 c1] w fun e w' => e = .returned (.bool true) ∧ Below w.heap.size w w' := by
  by_cases h0 : 1048576 < l0
  · go_enter Tryd.func8, Tryd.ntmps8
    go_wp2
    go_ret
    exact ⟨rfl, Below.refl _ _⟩
  · have h1 : 1048576 < l1 := by omega
    clear h
    go_enter Tryd.func8, Tryd.ntmps8
    go_wp2
    go_ret
    exact ⟨rfl, Below.refl _ _⟩

theorem law (a0 a1 : Option Addr) (l0 c0 l1 c1 : Nat) (w : World) (C0 : CodeAt (.slice a0 l0 c0) w) (C1 : CodeAt (.slice a1 l1 c1) w) (T : KTab w) :
    Calls Tryd.prog 8 #[.slice a0 l0 c0, .slice a1 l1 c1] w fun e w' => e = .returned (.bool true) ∧ Below w.heap.size w w' := by
  by_cases hs : 1048576 < l0 ∨ 1048576 < l1
  · exact law_long a0 a1 l0 c0 l1 c1 w hs
  · exact law_short a0 a1 l0 c0 l1 c1 w T (by omega) (by omega) C0 C1

end Go.Proofs.YtelgefchnjiggaaDoor.PutB
