/- Texts of this proof laid together: PutA, DevKT. -/
import Derived.Test.YtdhoimjkgicneaaDoorLot35
import Derived.Test.YtdhoimjkgicneaaDoorLot36
import Derived.Test.YtdhoimjkgicneaaDoorLot37
import Derived.Test.YtdhoimjkgicneaaDoorLot25
import Derived.Test.YtdhoimjkgicneaaDoorLot38
import Derived.Test.YtdhoimjkgicneaaDoorLot41
import Derived.Deep.RegionHeld
import Derived.Deep.CutRange
import Derived.Test.YtdhoimjkgicneaaDoorLot27
import Derived.Test.YtdhoimjkgicneaaDoorLot34
import Derived.Lib.LaidTab
import Derived.OpenShut
/- The law that a bit that is put changes that bit and nothing else, walked. -/
namespace Go.Proofs.YtdhoimjkgicneaaDoor.PutB
open Go Go.RowKit

theorem same_self (v : MemV) : SameM v v := ⟨rfl, rfl, rfl, rfl, rfl, fun _ _ => rfl, fun _ _ => rfl, fun _ _ => rfl, fun _ _ => rfl, fun _ _ => rfl, fun _ _ => rfl, fun _ _ => same_refl _, rfl, rfl, rfl⟩

theorem same_true {a b : MemV} (ha : a.Ok) (hb : b.Ok) (h : SameM a b) (w : World) : Calls Tryd.prog 41 #[.agg a.row, .agg b.row] w fun e w' => e = .returned (.bool true) ∧ Below w.heap.size w w' :=
  (impl_same a b ha hb w).mono fun _ _ ⟨_, he, hq, hw⟩ => ⟨by rw [he, hq.2 h], hw⟩

theorem quiet_skip {ops : Array Oper} {C : World → Prop} {Q : Act → Prop} {rest : List Oper} {o : Oper} {a : Act} (hg : Region.wanted o (yielded ops a.tmps) = false) (h : wpQuiet Tryd.prog ops C Q rest (a.put o.dst undef)) : wpQuiet Tryd.prog ops C Q (o :: rest) a := by
  rw [wpQuiet, if_neg (by rw [hg]; exact Bool.false_ne_true)]
  exact h

theorem put_ok {v : MemV} {k : Int} (n : Int) (b : Bool) (hv : v.Ok) (h : 2 ≤ k ∧ k ≤ 5) : (putV v k n b).Ok := by
  rcases four h with rfl | rfl | rfl | rfl
  · have hl : (atZ 2 n).toNat < 32 := by show (n % 32).toNat < 32; omega
    exact ⟨hv.x, turn_small (s := 32) hv.y hl b, hv.m, hv.s, hv.e, hv.tC, hv.cC, hv.d1, hv.d2, hv.r, hv.time⟩
  · have hl : (atZ 3 n).toNat < 64 := by show (n % 64).toNat < 64; omega
    exact ⟨hv.x, hv.y, turn_small (s := 64) hv.m hl b, hv.s, hv.e, hv.tC, hv.cC, hv.d1, hv.d2, hv.r, hv.time⟩
  · have hl : (atZ 4 n).toNat < 16 := by show (n % 16).toNat < 16; omega
    exact ⟨hv.x, hv.y, hv.m, turn_small (s := 16) hv.s hl b, hv.e, hv.tC, hv.cC, hv.d1, hv.d2, hv.r, hv.time⟩
  · have hl : (atZ 5 n).toNat < 32 := by show (n % 32).toNat < 32; omega
    exact ⟨hv.x, hv.y, hv.m, hv.s, turn_small (s := 32) hv.e hl b, hv.tC, hv.cC, hv.d1, hv.d2, hv.r, hv.time⟩

/-- What is there behind the put: the memory, the operand, and the memory that was put. -/
structure Put5 (m r : MemV) (k n p : Int) (q q2 : Nat) (w wr : World) : Prop where
  M : MemAt q m wr
  P : MemAt q2 r wr
  G : ArgAt (q + 1) (.int .i64 k) (.int .i64 n) (.int .i64 p) wr
  b : Below w.heap.size w wr

theorem box_of {m : MemV} {k n p : Int} {q : Nat} {w w4 : World} (r : MemV) (hb : Below w.heap.size w w4) (M : MemAt q m w4) (G : ArgAt (q + 1) (.int .i64 k) (.int .i64 n) (.int .i64 p) w4) :
    MemAt w4.heap.size mem0 (w4.alloc (.cells Tryd.zeroCells61 61)) ∧
    (Instr.storeAt 61 (.pointer (some ⟨w4.heap.size, 0, none⟩)) (.agg r.row)).run Tryd.prog (w4.alloc (.cells Tryd.zeroCells61 61)) = .ok () ((w4.alloc (.cells Tryd.zeroCells61 61)).setCells w4.heap.size 0 r.row.toList) ∧
    Put5 m r k n p q w4.heap.size w ((w4.alloc (.cells Tryd.zeroCells61 61)).setCells w4.heap.size 0 r.row.toList) := by
  rw [zero_row]
  have h1 : Below w4.heap.size w4 (w4.alloc (.cells mem0.row 61)) := (Below.refl _ _).alloc (Nat.le_refl _) _
  have Z := MemAt.alloc mem0 w4 61
  have hz := M.z
  have gz := G.lt
  have hs := hb.size
  exact ⟨Z, store_mem r Z, (M.below h1 hz).other (by omega), Z.stored r, (G.below h1 gz).other (by omega), setCells_below _ _ _ (hb.alloc hs _) hs⟩

set_option maxRecDepth 100000 in
set_option maxHeartbeats 8000000 in
theorem law_short (a0 a1 : Option Addr) (l0 c0 l1 c1 : Nat) (w : World) (T : KTab w) (h0 : l0 ≤ 1048576) (h1 : l1 ≤ 1048576) (C0 : CodeAt (.slice a0 l0 c0) w) (C1 : CodeAt (.slice a1 l1 c1) w) :
    Calls Tryd.prog 8 #[.slice a0 l0 c0, .slice a1 l1 c1] w fun e w' => e = .returned (.bool true) ∧ Below w.heap.size w w' := by
  go_enter Tryd.func8, Tryd.ntmps8
  go_wp2_with fail
  refine (draw_put _ w C0).mono ?_
  rintro e w1 ⟨m, k, n, p, b, hm, rfl, hb⟩
  obtain ⟨Z, Y, D⟩ := drew_of (m := m) (k := k) (n := n) (p := p) hb 61 24
  have L1 := store_mem m Z
  have L2 := Y.store (x' := .int .i64 k) (y' := .int .i64 n) (z' := .int .i64 p) rfl rfl rfl
  have C1' := C1.below hb
  clear Z Y hb C0
  generalize ((((w1.alloc (.cells Tryd.zeroCells61 61)).alloc (.cells #[.int .i64 0, .int .i64 0, .int .i64 0] 24)).setCells w1.heap.size 0 m.row.toList).setCells (w1.heap.size + 1) 0 [.int .i64 k, .int .i64 n, .int .i64 p]) = w2 at D L2
  go_upto_region 4 with (refine list_store (t := 61) (x := .pointer (some ⟨w1.heap.size, 0, none⟩)) (u := .agg m.row) rfl rfl rfl rfl L1 ?_; refine list_store (t := 24) (x := .pointer (some ⟨w1.heap.size + 1, 0, none⟩)) (u := .agg #[.int .i64 k, .int .i64 n, .int .i64 p]) rfl rfl rfl rfl L2 ?_; simp only [Act.put]; clear L1 L2)
  generalize w1.heap.size = q at D ⊢
  obtain ⟨M, G, BW⟩ := D
  have g0 := G.c0
  have TT : ∀ w', Below w2.heap.size w2 w' → KTab w' := fun w' hw' => T.below (BW.trans (hw'.mono BW.size)) (Nat.le_refl _)
  obtain ⟨was, hwas⟩ : ∃ mb, mb = mbit m k n := ⟨_, rfl⟩
  have CW : ∀ w, KTab w → Calls Tryd.prog 39 #[.agg m.row, .agg #[.int .i64 k, .int .i64 n, .int .i64 p]] w fun e w' => e = .returned (.bool was) ∧ Below w.heap.size w w' := fun w T => hwas ▸ impl_membit m k n p w hm T
  have Hwas : Hid (was = mbit m k n) := hwas
  clear hwas
  obtain ⟨r, hr⟩ : ∃ r, r = putV m k n b := ⟨_, rfl⟩
  have CP : ∀ w, KTab w → Calls Tryd.prog 40 #[.agg m.row, .agg #[.int .i64 k, .int .i64 n, .int .i64 p], .bool b] w fun e w' => e = .returned (.agg r.row) ∧ Below w.heap.size w w' := fun w T => hr ▸ impl_memput m k n p b w hm T
  have Hr : Hid (r = putV m k n b) := hr
  clear hr
  go_upto_region 5 with (refine list_load (t := 61) rfl rfl rfl (load_mem M) ?_; refine list_load (t := 24) rfl rfl rfl G.load ?_)
  refine (CW w2 (TT w2 (Below.refl _ _))).mono ?_
  rintro e w3 ⟨rfl, hw3⟩
  have M3 := M.below hw3 M.z
  have G3 := G.below hw3 G.lt
  have BW3 := BW.trans (hw3.mono BW.size)
  have T3 : KTab w3 := T.below BW3 (Nat.le_refl _)
  clear M G BW TT hw3 g0 CW C1'
  go_upto_region 5 with fail
  go_upto_region 6 with (refine list_load (t := 61) rfl rfl rfl (load_mem M3) ?_; refine list_load (t := 24) rfl rfl rfl G3.load ?_)
  refine (CP w3 T3).mono ?_
  rintro e w4 ⟨rfl, hw4⟩
  have M4 := M3.below hw4 M3.z
  have G4 := G3.below hw4 G3.lt
  have BW4 := BW3.trans (hw4.mono BW3.size)
  clear M3 G3 BW3 T3 CP
  obtain ⟨Z, S, D5⟩ := box_of (m := m) (k := k) (n := n) (p := p) r BW4 M4 G4
  generalize ((w4.alloc (.cells Tryd.zeroCells61 61)).setCells w4.heap.size 0 r.row.toList) = w5 at D5 S
  clear hw4 M4 G4 BW4
  go_upto_region 6 with (refine list_store (t := 61) (x := .pointer (some ⟨w4.heap.size, 0, none⟩)) (u := .agg r.row) rfl rfl rfl rfl S ?_; simp only [Act.put]; clear S Z)
  generalize w4.heap.size = q2 at D5 ⊢
  obtain ⟨M5, P5, G5, BW5⟩ := D5
  by_cases hk : 2 ≤ k ∧ k ≤ 5
  · obtain ⟨hk1, hk2⟩ := hk
    have e1 : decide (k < 2) = false := by simp; omega
    have e2 : decide (5 < k) = false := by simp; omega
    have g0 := G5.c0
    go_upto_region 8 with fail
    go_wp2_with fail
    refine (draw_bit _ w5 (C1.below BW5)).mono ?_
    rintro e w6 ⟨m', k', n', p', hm', rfl, hb6⟩
    obtain ⟨Z, Y, D⟩ := drew_of (m := m') (k := k') (n := n') (p := p') hb6 61 24
    have L1 := store_mem m' Z
    have L2 := Y.store (x' := .int .i64 k') (y' := .int .i64 n') (z' := .int .i64 p') rfl rfl rfl
    clear Z Y hb6
    generalize ((((w6.alloc (.cells Tryd.zeroCells61 61)).alloc (.cells #[.int .i64 0, .int .i64 0, .int .i64 0] 24)).setCells w6.heap.size 0 m'.row.toList).setCells (w6.heap.size + 1) 0 [.int .i64 k', .int .i64 n', .int .i64 p']) = w7 at D L2
    go_upto_region 9 with (refine list_store (t := 61) (x := .pointer (some ⟨w6.heap.size, 0, none⟩)) (u := .agg m'.row) rfl rfl rfl rfl L1 ?_; refine list_store (t := 24) (x := .pointer (some ⟨w6.heap.size + 1, 0, none⟩)) (u := .agg #[.int .i64 k', .int .i64 n', .int .i64 p']) rfl rfl rfl rfl L2 ?_; simp only [Act.put]; clear L1 L2)
    generalize w6.heap.size = q6 at D ⊢
    obtain ⟨M7', O7, BW7'⟩ := D
    have M7 := M5.below BW7' M5.z
    have P7 := P5.below BW7' P5.z
    have G7 := G5.below BW7' G5.lt
    have BW7 := BW5.trans (BW7'.mono BW5.size)
    have T7 : KTab w7 := T.below BW7 (Nat.le_refl _)
    clear M7' BW7' M5 P5 G5 BW5 g0
    obtain ⟨nb, hnb⟩ : ∃ nb, nb = mbit m k' n' := ⟨_, rfl⟩
    have CN : ∀ w, KTab w → Calls Tryd.prog 39 #[.agg m.row, .agg #[.int .i64 k', .int .i64 n', .int .i64 p']] w fun e w' => e = .returned (.bool nb) ∧ Below w.heap.size w w' := fun w T => hnb ▸ impl_membit m k' n' p' w hm T
    have Hnb : Hid (nb = mbit m k' n') := hnb
    clear hnb
    go_upto_region 10 with (refine list_load (t := 61) rfl rfl rfl (load_mem M7) ?_; refine list_load (t := 24) rfl rfl rfl O7.load ?_)
    refine (CN w7 T7).mono ?_
    rintro e w8 ⟨rfl, hw8⟩
    have M := M7.below hw8 M7.z
    have P := P7.below hw8 P7.z
    have G := G7.below hw8 G7.lt
    have O := O7.below hw8 O7.lt
    have BW := BW7.trans (hw8.mono BW7.size)
    clear M7 P7 G7 O7 BW7 T7 hw8 CN
    go_upto_region 10 with fail
    have TT : ∀ w', Below w8.heap.size w8 w' → KTab w' := fun w' hw' => T.below (BW.trans (hw'.mono BW.size)) (Nat.le_refl _)
    obtain ⟨wz, hwz⟩ : ∃ wz, wz = wholeZ m k' n' := ⟨_, rfl⟩
    have hrm : r.Ok := by rw [Hr.out]; exact put_ok n b hm ⟨hk1, hk2⟩
    have W2 : ∀ w, KTab w → Calls Tryd.prog 43 #[.agg m.row, .agg #[.int .i64 k', .int .i64 n', .int .i64 p']] w fun e w' => e = .returned (.int .i16 wz) ∧ Below w.heap.size w w' := fun w T => hwz ▸ impl_memwhole m k' n' p' w hm T
    have hwz2 : wz = wholeZ r k' n' := by rw [hwz, Hr.out, put_whole]
    have W1 : ∀ w, KTab w → Calls Tryd.prog 43 #[.agg r.row, .agg #[.int .i64 k', .int .i64 n', .int .i64 p']] w fun e w' => e = .returned (.int .i16 wz) ∧ Below w.heap.size w w' := fun w T => hwz2 ▸ impl_memwhole r k' n' p' w hrm T
    clear hwz hwz2
    obtain ⟨oa, hoa⟩ : ∃ oa, oa = okB k n p := ⟨_, rfl⟩
    obtain ⟨oo, hoo⟩ : ∃ oo, oo = okB k' n' p' := ⟨_, rfl⟩
    have CA : ∀ w, Calls Tryd.prog 36 #[.agg #[.int .i64 k, .int .i64 n, .int .i64 p]] w fun e w' => e = .returned (.bool oa) ∧ Below w.heap.size w w' := fun w => hoa ▸ spec_ok k n p w
    have CO : ∀ w, Calls Tryd.prog 36 #[.agg #[.int .i64 k', .int .i64 n', .int .i64 p']] w fun e w' => e = .returned (.bool oo) ∧ Below w.heap.size w w' := fun w => hoo ▸ spec_ok k' n' p' w
    have CX : ∀ w, KTab w → Calls Tryd.prog 39 #[.agg r.row, .agg #[.int .i64 k, .int .i64 n, .int .i64 p]] w fun e w' => e = .returned (.bool b) ∧ Below w.heap.size w w' := by
      have h1 : mbit r k n = b := by rw [Hr.out]; exact put_bit m n b ⟨hk1, hk2⟩
      exact fun w T => h1 ▸ impl_membit r k n p w hrm T
    have CY : ∀ w, KTab w → Calls Tryd.prog 40 #[.agg r.row, .agg #[.int .i64 k, .int .i64 n, .int .i64 p], .bool was] w fun e w' => e = .returned (.agg m.row) ∧ Below w.heap.size w w' := by
      have h1 : putV r k n was = m := by rw [Hr.out, Hwas.out]; exact put_back m n b ⟨hk1, hk2⟩
      intro w T
      have h2 := impl_memput r k n p was w hrm T
      rw [h1] at h2
      exact h2
    have CZ : ∀ w, Calls Tryd.prog 41 #[.agg m.row, .agg m.row] w fun e w' => e = .returned (.bool true) ∧ Below w.heap.size w w' := fun w => same_true hm hm (same_self m) w
    cases oa with
    | false =>
      clear hoa hoo
      refine wp_region_belowM (by kernel_rfl) (by kernel_rfl) ?_
      refine quiet_load (t := 24) (v := (.agg #[.int .i64 k, .int .i64 n, .int .i64 p])) rfl rfl rfl (fun w' hw' => (G.below hw' G.lt).load) ?_
      go_simp
      refine wpQuiet_step (fun K hK => ?_)
      go_simp
      refine ⟨(.bool false), fun w' hw' => (CA w').mono fun e w'' ⟨he, hb⟩ => ⟨he, hw'.trans (hb.mono hw'.size)⟩, hK _ ?_⟩
      clear hK K
      quiet_step (exact fun _ => rfl)
      refine quiet_skip rfl ?_
      go_simp
      refine quiet_skip rfl ?_
      go_simp
      quiet_step (exact fun _ => rfl)
      quiet_step (exact fun _ => rfl)
      refine quiet_skip rfl ?_
      go_simp
      refine quiet_skip rfl ?_
      go_simp
      refine quiet_skip rfl ?_
      go_simp
      quiet_step (exact fun _ => rfl)
      quiet_step (exact fun _ => rfl)
      refine quiet_skip rfl ?_
      go_simp
      refine quiet_skip rfl ?_
      go_simp
      refine quiet_skip rfl ?_
      go_simp
      refine quiet_skip rfl ?_
      go_simp
      refine quiet_skip rfl ?_
      go_simp
      quiet_step (exact fun _ => rfl)
      quiet_step (exact fun _ => rfl)
      refine quiet_load (t := 61) (v := .agg r.row) rfl rfl rfl (fun w' hw' => load_mem (P.below hw' P.z)) ?_
      go_simp
      refine quiet_load (t := 24) (v := (.agg #[.int .i64 k', .int .i64 n', .int .i64 p'])) rfl rfl rfl (fun w' hw' => (O.below hw' O.lt).load) ?_
      go_simp
      refine wpQuiet_step (fun K hK => ?_)
      go_simp
      refine ⟨(.int .i16 wz), fun w' hw' => (W1 w' (TT w' hw')).mono fun e w'' ⟨he, hb⟩ => ⟨he, hw'.trans (hb.mono hw'.size)⟩, hK _ ?_⟩
      clear hK K
      refine quiet_load (t := 61) (v := .agg m.row) rfl rfl rfl (fun w' hw' => load_mem (M.below hw' M.z)) ?_
      go_simp
      refine quiet_load (t := 24) (v := (.agg #[.int .i64 k', .int .i64 n', .int .i64 p'])) rfl rfl rfl (fun w' hw' => (O.below hw' O.lt).load) ?_
      go_simp
      refine wpQuiet_step (fun K hK => ?_)
      go_simp
      refine ⟨(.int .i16 wz), fun w' hw' => (W2 w' (TT w' hw')).mono fun e w'' ⟨he, hb⟩ => ⟨he, hw'.trans (hb.mono hw'.size)⟩, hK _ ?_⟩
      clear hK K
      refine wpQuiet_step (fun K hK => ?_)
      go_simp
      refine ⟨.bool false, fun _ _ => by simp, hK _ ?_⟩
      clear hK K
      quiet_step (exact fun _ => rfl)
      refine wpQuiet_nil ?_
      intro w9 hw9
      have M9 := M.below hw9 M.z
      have P9 := P.below hw9 P.z
      have G9 := G.below hw9 G.lt
      have BW9 := BW.trans (hw9.mono BW.size)
      clear M P G O BW TT CA CO W1 W2 hw9
      go_upto_region 12 with fail
      have TT : ∀ w', Below w9.heap.size w9 w' → KTab w' := fun w' hw' => T.below (BW9.trans (hw'.mono BW9.size)) (Nat.le_refl _)
      refine wp_region_belowM (by kernel_rfl) (by kernel_rfl) ?_
      refine quiet_load (t := 61) (v := .agg r.row) rfl rfl rfl (fun w' hw' => load_mem (P9.below hw' P9.z)) ?_
      go_simp
      refine quiet_load (t := 24) (v := (.agg #[.int .i64 k, .int .i64 n, .int .i64 p])) rfl rfl rfl (fun w' hw' => (G9.below hw' G9.lt).load) ?_
      go_simp
      refine wpQuiet_step (fun K hK => ?_)
      go_simp
      refine ⟨(.bool b), fun w' hw' => (CX w' (TT w' hw')).mono fun e w'' ⟨he, hb⟩ => ⟨he, hw'.trans (hb.mono hw'.size)⟩, hK _ ?_⟩
      clear hK K
      quiet_step (exact fun _ => rfl)
      refine wpQuiet_step (fun K hK => ?_)
      go_simp
      refine ⟨.bool true, fun _ _ => by simp, hK _ ?_⟩
      clear hK K
      quiet_step (exact fun _ => rfl)
      refine quiet_load (t := 61) (v := .agg r.row) rfl rfl rfl (fun w' hw' => load_mem (P9.below hw' P9.z)) ?_
      go_simp
      refine quiet_load (t := 24) (v := (.agg #[.int .i64 k, .int .i64 n, .int .i64 p])) rfl rfl rfl (fun w' hw' => (G9.below hw' G9.lt).load) ?_
      go_simp
      quiet_step (exact fun _ => rfl)
      refine wpQuiet_step (fun K hK => ?_)
      go_simp
      refine ⟨(.agg m.row), fun w' hw' => (CY w' (TT w' hw')).mono fun e w'' ⟨he, hb⟩ => ⟨he, hw'.trans (hb.mono hw'.size)⟩, hK _ ?_⟩
      clear hK K
      refine quiet_load (t := 61) (v := .agg m.row) rfl rfl rfl (fun w' hw' => load_mem (M9.below hw' M9.z)) ?_
      go_simp
      refine wpQuiet_step (fun K hK => ?_)
      go_simp
      refine ⟨(.bool true), fun w' hw' => (CZ w').mono fun e w'' ⟨he, hb⟩ => ⟨he, hw'.trans (hb.mono hw'.size)⟩, hK _ ?_⟩
      clear hK K
      quiet_step (exact fun _ => rfl)
      quiet_step (exact fun _ => rfl)
      refine wpQuiet_nil ?_
      intro w10 hw10
      have BW10 := BW9.trans (hw10.mono BW9.size)
      clear hw10 TT M9 P9 G9 BW9 CX CY CZ
      go_wp2_with fail
      go_ret
      exact ⟨rfl, BW10⟩
    | true =>
      cases oo with
      | false =>
        clear hoa hoo
        refine wp_region_belowM (by kernel_rfl) (by kernel_rfl) ?_
        refine quiet_load (t := 24) (v := (.agg #[.int .i64 k, .int .i64 n, .int .i64 p])) rfl rfl rfl (fun w' hw' => (G.below hw' G.lt).load) ?_
        go_simp
        refine wpQuiet_step (fun K hK => ?_)
        go_simp
        refine ⟨(.bool true), fun w' hw' => (CA w').mono fun e w'' ⟨he, hb⟩ => ⟨he, hw'.trans (hb.mono hw'.size)⟩, hK _ ?_⟩
        clear hK K
        quiet_step (exact fun _ => rfl)
        refine quiet_load (t := 24) (v := (.agg #[.int .i64 k', .int .i64 n', .int .i64 p'])) rfl rfl rfl (fun w' hw' => (O.below hw' O.lt).load) ?_
        go_simp
        refine wpQuiet_step (fun K hK => ?_)
        go_simp
        refine ⟨(.bool false), fun w' hw' => (CO w').mono fun e w'' ⟨he, hb⟩ => ⟨he, hw'.trans (hb.mono hw'.size)⟩, hK _ ?_⟩
        clear hK K
        quiet_step (exact fun _ => rfl)
        quiet_step (exact fun _ => rfl)
        refine quiet_skip rfl ?_
        go_simp
        refine quiet_skip rfl ?_
        go_simp
        refine quiet_skip rfl ?_
        go_simp
        quiet_step (exact fun _ => rfl)
        quiet_step (exact fun _ => rfl)
        refine quiet_skip rfl ?_
        go_simp
        refine quiet_skip rfl ?_
        go_simp
        refine quiet_skip rfl ?_
        go_simp
        refine quiet_skip rfl ?_
        go_simp
        refine quiet_skip rfl ?_
        go_simp
        quiet_step (exact fun _ => rfl)
        quiet_step (exact fun _ => rfl)
        refine quiet_load (t := 61) (v := .agg r.row) rfl rfl rfl (fun w' hw' => load_mem (P.below hw' P.z)) ?_
        go_simp
        refine quiet_load (t := 24) (v := (.agg #[.int .i64 k', .int .i64 n', .int .i64 p'])) rfl rfl rfl (fun w' hw' => (O.below hw' O.lt).load) ?_
        go_simp
        refine wpQuiet_step (fun K hK => ?_)
        go_simp
        refine ⟨(.int .i16 wz), fun w' hw' => (W1 w' (TT w' hw')).mono fun e w'' ⟨he, hb⟩ => ⟨he, hw'.trans (hb.mono hw'.size)⟩, hK _ ?_⟩
        clear hK K
        refine quiet_load (t := 61) (v := .agg m.row) rfl rfl rfl (fun w' hw' => load_mem (M.below hw' M.z)) ?_
        go_simp
        refine quiet_load (t := 24) (v := (.agg #[.int .i64 k', .int .i64 n', .int .i64 p'])) rfl rfl rfl (fun w' hw' => (O.below hw' O.lt).load) ?_
        go_simp
        refine wpQuiet_step (fun K hK => ?_)
        go_simp
        refine ⟨(.int .i16 wz), fun w' hw' => (W2 w' (TT w' hw')).mono fun e w'' ⟨he, hb⟩ => ⟨he, hw'.trans (hb.mono hw'.size)⟩, hK _ ?_⟩
        clear hK K
        refine wpQuiet_step (fun K hK => ?_)
        go_simp
        refine ⟨.bool false, fun _ _ => by simp, hK _ ?_⟩
        clear hK K
        quiet_step (exact fun _ => rfl)
        refine wpQuiet_nil ?_
        intro w9 hw9
        have M9 := M.below hw9 M.z
        have P9 := P.below hw9 P.z
        have G9 := G.below hw9 G.lt
        have BW9 := BW.trans (hw9.mono BW.size)
        clear M P G O BW TT CA CO W1 W2 hw9
        go_upto_region 12 with fail
        have TT : ∀ w', Below w9.heap.size w9 w' → KTab w' := fun w' hw' => T.below (BW9.trans (hw'.mono BW9.size)) (Nat.le_refl _)
        refine wp_region_belowM (by kernel_rfl) (by kernel_rfl) ?_
        refine quiet_load (t := 61) (v := .agg r.row) rfl rfl rfl (fun w' hw' => load_mem (P9.below hw' P9.z)) ?_
        go_simp
        refine quiet_load (t := 24) (v := (.agg #[.int .i64 k, .int .i64 n, .int .i64 p])) rfl rfl rfl (fun w' hw' => (G9.below hw' G9.lt).load) ?_
        go_simp
        refine wpQuiet_step (fun K hK => ?_)
        go_simp
        refine ⟨(.bool b), fun w' hw' => (CX w' (TT w' hw')).mono fun e w'' ⟨he, hb⟩ => ⟨he, hw'.trans (hb.mono hw'.size)⟩, hK _ ?_⟩
        clear hK K
        quiet_step (exact fun _ => rfl)
        refine wpQuiet_step (fun K hK => ?_)
        go_simp
        refine ⟨.bool true, fun _ _ => by simp, hK _ ?_⟩
        clear hK K
        quiet_step (exact fun _ => rfl)
        refine quiet_load (t := 61) (v := .agg r.row) rfl rfl rfl (fun w' hw' => load_mem (P9.below hw' P9.z)) ?_
        go_simp
        refine quiet_load (t := 24) (v := (.agg #[.int .i64 k, .int .i64 n, .int .i64 p])) rfl rfl rfl (fun w' hw' => (G9.below hw' G9.lt).load) ?_
        go_simp
        quiet_step (exact fun _ => rfl)
        refine wpQuiet_step (fun K hK => ?_)
        go_simp
        refine ⟨(.agg m.row), fun w' hw' => (CY w' (TT w' hw')).mono fun e w'' ⟨he, hb⟩ => ⟨he, hw'.trans (hb.mono hw'.size)⟩, hK _ ?_⟩
        clear hK K
        refine quiet_load (t := 61) (v := .agg m.row) rfl rfl rfl (fun w' hw' => load_mem (M9.below hw' M9.z)) ?_
        go_simp
        refine wpQuiet_step (fun K hK => ?_)
        go_simp
        refine ⟨(.bool true), fun w' hw' => (CZ w').mono fun e w'' ⟨he, hb⟩ => ⟨he, hw'.trans (hb.mono hw'.size)⟩, hK _ ?_⟩
        clear hK K
        quiet_step (exact fun _ => rfl)
        quiet_step (exact fun _ => rfl)
        refine wpQuiet_nil ?_
        intro w10 hw10
        have BW10 := BW9.trans (hw10.mono BW9.size)
        clear hw10 TT M9 P9 G9 BW9 CX CY CZ
        go_wp2_with fail
        go_ret
        exact ⟨rfl, BW10⟩
      | true =>
        cases hq : decide (k' = k ∧ n' = n ∧ p' = p) with
        | true =>
          clear hoa hoo
          refine wp_region_belowM (by kernel_rfl) (by kernel_rfl) ?_
          refine quiet_load (t := 24) (v := (.agg #[.int .i64 k, .int .i64 n, .int .i64 p])) rfl rfl rfl (fun w' hw' => (G.below hw' G.lt).load) ?_
          go_simp
          refine wpQuiet_step (fun K hK => ?_)
          go_simp
          refine ⟨(.bool true), fun w' hw' => (CA w').mono fun e w'' ⟨he, hb⟩ => ⟨he, hw'.trans (hb.mono hw'.size)⟩, hK _ ?_⟩
          clear hK K
          quiet_step (exact fun _ => rfl)
          refine quiet_load (t := 24) (v := (.agg #[.int .i64 k', .int .i64 n', .int .i64 p'])) rfl rfl rfl (fun w' hw' => (O.below hw' O.lt).load) ?_
          go_simp
          refine wpQuiet_step (fun K hK => ?_)
          go_simp
          refine ⟨(.bool true), fun w' hw' => (CO w').mono fun e w'' ⟨he, hb⟩ => ⟨he, hw'.trans (hb.mono hw'.size)⟩, hK _ ?_⟩
          clear hK K
          quiet_step (exact fun _ => rfl)
          quiet_step (exact fun _ => rfl)
          refine quiet_load (t := 24) (v := (.agg #[.int .i64 k', .int .i64 n', .int .i64 p'])) rfl rfl rfl (fun w' hw' => (O.below hw' O.lt).load) ?_
          go_simp
          refine quiet_load (t := 24) (v := (.agg #[.int .i64 k, .int .i64 n, .int .i64 p])) rfl rfl rfl (fun w' hw' => (G.below hw' G.lt).load) ?_
          go_simp
          refine quiet_bin (op := .neq) (t := 24) (u1 := .agg #[.int .i64 k', .int .i64 n', .int .i64 p']) (u2 := .agg #[.int .i64 k, .int .i64 n, .int .i64 p]) (v := .bool false) rfl rfl rfl rfl (fun w' => run_eqGuard_agg w' _ _ _ _ _ _ (by kernel_rfl)) (fun w' => (neq_arg k n p k' n' p' w').trans (by rw [hq]; rfl)) ?_
          go_simp
          quiet_step (exact fun _ => rfl)
          quiet_step (exact fun _ => rfl)
          refine quiet_skip rfl ?_
          go_simp
          refine quiet_skip rfl ?_
          go_simp
          refine quiet_skip rfl ?_
          go_simp
          refine quiet_skip rfl ?_
          go_simp
          refine quiet_skip rfl ?_
          go_simp
          quiet_step (exact fun _ => rfl)
          quiet_step (exact fun _ => rfl)
          refine quiet_load (t := 61) (v := .agg r.row) rfl rfl rfl (fun w' hw' => load_mem (P.below hw' P.z)) ?_
          go_simp
          refine quiet_load (t := 24) (v := (.agg #[.int .i64 k', .int .i64 n', .int .i64 p'])) rfl rfl rfl (fun w' hw' => (O.below hw' O.lt).load) ?_
          go_simp
          refine wpQuiet_step (fun K hK => ?_)
          go_simp
          refine ⟨(.int .i16 wz), fun w' hw' => (W1 w' (TT w' hw')).mono fun e w'' ⟨he, hb⟩ => ⟨he, hw'.trans (hb.mono hw'.size)⟩, hK _ ?_⟩
          clear hK K
          refine quiet_load (t := 61) (v := .agg m.row) rfl rfl rfl (fun w' hw' => load_mem (M.below hw' M.z)) ?_
          go_simp
          refine quiet_load (t := 24) (v := (.agg #[.int .i64 k', .int .i64 n', .int .i64 p'])) rfl rfl rfl (fun w' hw' => (O.below hw' O.lt).load) ?_
          go_simp
          refine wpQuiet_step (fun K hK => ?_)
          go_simp
          refine ⟨(.int .i16 wz), fun w' hw' => (W2 w' (TT w' hw')).mono fun e w'' ⟨he, hb⟩ => ⟨he, hw'.trans (hb.mono hw'.size)⟩, hK _ ?_⟩
          clear hK K
          refine wpQuiet_step (fun K hK => ?_)
          go_simp
          refine ⟨.bool false, fun _ _ => by simp, hK _ ?_⟩
          clear hK K
          quiet_step (exact fun _ => rfl)
          refine wpQuiet_nil ?_
          intro w9 hw9
          have M9 := M.below hw9 M.z
          have P9 := P.below hw9 P.z
          have G9 := G.below hw9 G.lt
          have BW9 := BW.trans (hw9.mono BW.size)
          clear M P G O BW TT CA CO W1 W2 hw9
          go_upto_region 12 with fail
          have TT : ∀ w', Below w9.heap.size w9 w' → KTab w' := fun w' hw' => T.below (BW9.trans (hw'.mono BW9.size)) (Nat.le_refl _)
          refine wp_region_belowM (by kernel_rfl) (by kernel_rfl) ?_
          refine quiet_load (t := 61) (v := .agg r.row) rfl rfl rfl (fun w' hw' => load_mem (P9.below hw' P9.z)) ?_
          go_simp
          refine quiet_load (t := 24) (v := (.agg #[.int .i64 k, .int .i64 n, .int .i64 p])) rfl rfl rfl (fun w' hw' => (G9.below hw' G9.lt).load) ?_
          go_simp
          refine wpQuiet_step (fun K hK => ?_)
          go_simp
          refine ⟨(.bool b), fun w' hw' => (CX w' (TT w' hw')).mono fun e w'' ⟨he, hb⟩ => ⟨he, hw'.trans (hb.mono hw'.size)⟩, hK _ ?_⟩
          clear hK K
          quiet_step (exact fun _ => rfl)
          refine wpQuiet_step (fun K hK => ?_)
          go_simp
          refine ⟨.bool true, fun _ _ => by simp, hK _ ?_⟩
          clear hK K
          quiet_step (exact fun _ => rfl)
          refine quiet_load (t := 61) (v := .agg r.row) rfl rfl rfl (fun w' hw' => load_mem (P9.below hw' P9.z)) ?_
          go_simp
          refine quiet_load (t := 24) (v := (.agg #[.int .i64 k, .int .i64 n, .int .i64 p])) rfl rfl rfl (fun w' hw' => (G9.below hw' G9.lt).load) ?_
          go_simp
          quiet_step (exact fun _ => rfl)
          refine wpQuiet_step (fun K hK => ?_)
          go_simp
          refine ⟨(.agg m.row), fun w' hw' => (CY w' (TT w' hw')).mono fun e w'' ⟨he, hb⟩ => ⟨he, hw'.trans (hb.mono hw'.size)⟩, hK _ ?_⟩
          clear hK K
          refine quiet_load (t := 61) (v := .agg m.row) rfl rfl rfl (fun w' hw' => load_mem (M9.below hw' M9.z)) ?_
          go_simp
          refine wpQuiet_step (fun K hK => ?_)
          go_simp
          refine ⟨(.bool true), fun w' hw' => (CZ w').mono fun e w'' ⟨he, hb⟩ => ⟨he, hw'.trans (hb.mono hw'.size)⟩, hK _ ?_⟩
          clear hK K
          quiet_step (exact fun _ => rfl)
          quiet_step (exact fun _ => rfl)
          refine wpQuiet_nil ?_
          intro w10 hw10
          have BW10 := BW9.trans (hw10.mono BW9.size)
          clear hw10 TT M9 P9 G9 BW9 CX CY CZ
          go_wp2_with fail
          go_ret
          exact ⟨rfl, BW10⟩
        | false =>
          have CB : ∀ w, KTab w → Calls Tryd.prog 39 #[.agg r.row, .agg #[.int .i64 k', .int .i64 n', .int .i64 p']] w fun e w' => e = .returned (.bool nb) ∧ Below w.heap.size w w' := by
            have h1 : nb = mbit r k' n' := by rw [Hnb.out, Hr.out]; exact (put_other m b ⟨hk1, hk2⟩ hoa.symm hoo.symm (by simpa using hq)).symm
            exact fun w T => h1 ▸ impl_membit r k' n' p' w hrm T
          clear hoa hoo
          refine wp_region_belowM (by kernel_rfl) (by kernel_rfl) ?_
          refine quiet_load (t := 24) (v := (.agg #[.int .i64 k, .int .i64 n, .int .i64 p])) rfl rfl rfl (fun w' hw' => (G.below hw' G.lt).load) ?_
          go_simp
          refine wpQuiet_step (fun K hK => ?_)
          go_simp
          refine ⟨(.bool true), fun w' hw' => (CA w').mono fun e w'' ⟨he, hb⟩ => ⟨he, hw'.trans (hb.mono hw'.size)⟩, hK _ ?_⟩
          clear hK K
          quiet_step (exact fun _ => rfl)
          refine quiet_load (t := 24) (v := (.agg #[.int .i64 k', .int .i64 n', .int .i64 p'])) rfl rfl rfl (fun w' hw' => (O.below hw' O.lt).load) ?_
          go_simp
          refine wpQuiet_step (fun K hK => ?_)
          go_simp
          refine ⟨(.bool true), fun w' hw' => (CO w').mono fun e w'' ⟨he, hb⟩ => ⟨he, hw'.trans (hb.mono hw'.size)⟩, hK _ ?_⟩
          clear hK K
          quiet_step (exact fun _ => rfl)
          quiet_step (exact fun _ => rfl)
          refine quiet_load (t := 24) (v := (.agg #[.int .i64 k', .int .i64 n', .int .i64 p'])) rfl rfl rfl (fun w' hw' => (O.below hw' O.lt).load) ?_
          go_simp
          refine quiet_load (t := 24) (v := (.agg #[.int .i64 k, .int .i64 n, .int .i64 p])) rfl rfl rfl (fun w' hw' => (G.below hw' G.lt).load) ?_
          go_simp
          refine quiet_bin (op := .neq) (t := 24) (u1 := .agg #[.int .i64 k', .int .i64 n', .int .i64 p']) (u2 := .agg #[.int .i64 k, .int .i64 n, .int .i64 p]) (v := .bool true) rfl rfl rfl rfl (fun w' => run_eqGuard_agg w' _ _ _ _ _ _ (by kernel_rfl)) (fun w' => (neq_arg k n p k' n' p' w').trans (by rw [hq]; rfl)) ?_
          go_simp
          quiet_step (exact fun _ => rfl)
          quiet_step (exact fun _ => rfl)
          refine quiet_load (t := 61) (v := .agg r.row) rfl rfl rfl (fun w' hw' => load_mem (P.below hw' P.z)) ?_
          go_simp
          refine quiet_load (t := 24) (v := (.agg #[.int .i64 k', .int .i64 n', .int .i64 p'])) rfl rfl rfl (fun w' hw' => (O.below hw' O.lt).load) ?_
          go_simp
          refine wpQuiet_step (fun K hK => ?_)
          go_simp
          refine ⟨(.bool nb), fun w' hw' => (CB w' (TT w' hw')).mono fun e w'' ⟨he, hb⟩ => ⟨he, hw'.trans (hb.mono hw'.size)⟩, hK _ ?_⟩
          clear hK K
          quiet_step (exact fun _ => rfl)
          refine wpQuiet_step (fun K hK => ?_)
          go_simp
          refine ⟨.bool false, fun _ _ => by simp, hK _ ?_⟩
          clear hK K
          quiet_step (exact fun _ => rfl)
          quiet_step (exact fun _ => rfl)
          refine quiet_load (t := 61) (v := .agg r.row) rfl rfl rfl (fun w' hw' => load_mem (P.below hw' P.z)) ?_
          go_simp
          refine quiet_load (t := 24) (v := (.agg #[.int .i64 k', .int .i64 n', .int .i64 p'])) rfl rfl rfl (fun w' hw' => (O.below hw' O.lt).load) ?_
          go_simp
          refine wpQuiet_step (fun K hK => ?_)
          go_simp
          refine ⟨(.int .i16 wz), fun w' hw' => (W1 w' (TT w' hw')).mono fun e w'' ⟨he, hb⟩ => ⟨he, hw'.trans (hb.mono hw'.size)⟩, hK _ ?_⟩
          clear hK K
          refine quiet_load (t := 61) (v := .agg m.row) rfl rfl rfl (fun w' hw' => load_mem (M.below hw' M.z)) ?_
          go_simp
          refine quiet_load (t := 24) (v := (.agg #[.int .i64 k', .int .i64 n', .int .i64 p'])) rfl rfl rfl (fun w' hw' => (O.below hw' O.lt).load) ?_
          go_simp
          refine wpQuiet_step (fun K hK => ?_)
          go_simp
          refine ⟨(.int .i16 wz), fun w' hw' => (W2 w' (TT w' hw')).mono fun e w'' ⟨he, hb⟩ => ⟨he, hw'.trans (hb.mono hw'.size)⟩, hK _ ?_⟩
          clear hK K
          refine wpQuiet_step (fun K hK => ?_)
          go_simp
          refine ⟨.bool false, fun _ _ => by simp, hK _ ?_⟩
          clear hK K
          quiet_step (exact fun _ => rfl)
          refine wpQuiet_nil ?_
          intro w9 hw9
          have M9 := M.below hw9 M.z
          have P9 := P.below hw9 P.z
          have G9 := G.below hw9 G.lt
          have BW9 := BW.trans (hw9.mono BW.size)
          clear M P G O BW TT CA CO W1 W2 hw9
          go_upto_region 12 with fail
          have TT : ∀ w', Below w9.heap.size w9 w' → KTab w' := fun w' hw' => T.below (BW9.trans (hw'.mono BW9.size)) (Nat.le_refl _)
          refine wp_region_belowM (by kernel_rfl) (by kernel_rfl) ?_
          refine quiet_load (t := 61) (v := .agg r.row) rfl rfl rfl (fun w' hw' => load_mem (P9.below hw' P9.z)) ?_
          go_simp
          refine quiet_load (t := 24) (v := (.agg #[.int .i64 k, .int .i64 n, .int .i64 p])) rfl rfl rfl (fun w' hw' => (G9.below hw' G9.lt).load) ?_
          go_simp
          refine wpQuiet_step (fun K hK => ?_)
          go_simp
          refine ⟨(.bool b), fun w' hw' => (CX w' (TT w' hw')).mono fun e w'' ⟨he, hb⟩ => ⟨he, hw'.trans (hb.mono hw'.size)⟩, hK _ ?_⟩
          clear hK K
          quiet_step (exact fun _ => rfl)
          refine wpQuiet_step (fun K hK => ?_)
          go_simp
          refine ⟨.bool true, fun _ _ => by simp, hK _ ?_⟩
          clear hK K
          quiet_step (exact fun _ => rfl)
          refine quiet_load (t := 61) (v := .agg r.row) rfl rfl rfl (fun w' hw' => load_mem (P9.below hw' P9.z)) ?_
          go_simp
          refine quiet_load (t := 24) (v := (.agg #[.int .i64 k, .int .i64 n, .int .i64 p])) rfl rfl rfl (fun w' hw' => (G9.below hw' G9.lt).load) ?_
          go_simp
          quiet_step (exact fun _ => rfl)
          refine wpQuiet_step (fun K hK => ?_)
          go_simp
          refine ⟨(.agg m.row), fun w' hw' => (CY w' (TT w' hw')).mono fun e w'' ⟨he, hb⟩ => ⟨he, hw'.trans (hb.mono hw'.size)⟩, hK _ ?_⟩
          clear hK K
          refine quiet_load (t := 61) (v := .agg m.row) rfl rfl rfl (fun w' hw' => load_mem (M9.below hw' M9.z)) ?_
          go_simp
          refine wpQuiet_step (fun K hK => ?_)
          go_simp
          refine ⟨(.bool true), fun w' hw' => (CZ w').mono fun e w'' ⟨he, hb⟩ => ⟨he, hw'.trans (hb.mono hw'.size)⟩, hK _ ?_⟩
          clear hK K
          quiet_step (exact fun _ => rfl)
          quiet_step (exact fun _ => rfl)
          refine wpQuiet_nil ?_
          intro w10 hw10
          have BW10 := BW9.trans (hw10.mono BW9.size)
          clear hw10 TT M9 P9 G9 BW9 CX CY CZ
          go_wp2_with fail
          go_ret
          exact ⟨rfl, BW10⟩
  · have e0 : r = m := Hr.out.trans (put_none m b hk)
    have CS : ∀ w, Calls Tryd.prog 41 #[.agg r.row, .agg m.row] w fun e w' => e = .returned (.bool true) ∧ Below w.heap.size w w' := fun w => same_true (e0 ▸ hm) hm (e0 ▸ same_self r) w
    clear e0
    have g0 := G5.c0
    by_cases h2 : k < 2
    · have e1 : decide (k < 2) = true := by simpa using h2
      go_upto_region 7 with fail
      go_wp2_with (refine list_load (t := 61) rfl rfl rfl (load_mem P5) ?_; refine list_load (t := 61) rfl rfl rfl (load_mem M5) ?_)
      refine (CS w5).mono ?_
      rintro e w6 ⟨rfl, hb6⟩
      have BW6 := BW5.trans (hb6.mono BW5.size)
      clear M5 P5 G5 BW5 hb6 CS
      go_wp2_with fail
      go_ret
      exact ⟨rfl, BW6⟩
    · have e1 : decide (k < 2) = false := by simpa using h2
      have e2 : decide (5 < k) = true := by simp; omega
      go_upto_region 7 with fail
      go_wp2_with (refine list_load (t := 61) rfl rfl rfl (load_mem P5) ?_; refine list_load (t := 61) rfl rfl rfl (load_mem M5) ?_)
      refine (CS w5).mono ?_
      rintro e w6 ⟨rfl, hb6⟩
      have BW6 := BW5.trans (hb6.mono BW5.size)
      clear M5 P5 G5 BW5 hb6 CS
      go_wp2_with fail
      go_ret
      exact ⟨rfl, BW6⟩

set_option maxHeartbeats 400000 in
theorem law_long (a0 a1 : Option Addr) (l0 c0 l1 c1 : Nat) (w : World) (h : 1048576 < l0 ∨ 1048576 < l1) :
    Calls Tryd.prog 8 #[.slice a0 l0 c0, .slice a1 l1 c1] w fun e w' => e = .returned (.bool true) ∧ Below w.heap.size w w' := by
  by_cases h0 : 1048576 < l0
  · go_enter Tryd.func8, Tryd.ntmps8
    go_wp2
    go_ret
    exact ⟨rfl, Below.refl _ _⟩
  · have h1 : 1048576 < l1 := by omega
    clear h
    go_enter Tryd.func8, Tryd.ntmps8
    go_wp2
    go_ret
    exact ⟨rfl, Below.refl _ _⟩

theorem law (a0 a1 : Option Addr) (l0 c0 l1 c1 : Nat) (w : World) (C0 : CodeAt (.slice a0 l0 c0) w) (C1 : CodeAt (.slice a1 l1 c1) w) (T : KTab w) :
    Calls Tryd.prog 8 #[.slice a0 l0 c0, .slice a1 l1 c1] w fun e w' => e = .returned (.bool true) ∧ Below w.heap.size w w' := by
  by_cases hs : 1048576 < l0 ∨ 1048576 < l1
  · exact law_long a0 a1 l0 c0 l1 c1 w hs
  · exact law_short a0 a1 l0 c0 l1 c1 w T (by omega) (by omega) C0 C1

end Go.Proofs.YtdhoimjkgicneaaDoor.PutB

/- The row's list of package variables gives what the walks ask of the table of kinds. -/
namespace Go.Proofs.YtdhoimjkgicneaaDoor
open Go Go.ChangeShapes Go.WideShapes Go.ChangeAt Go.RowKit

theorem cStr : Tryd.prog.cellsOf 9 = 1 := by kernel_rfl
theorem cInt : Tryd.prog.cellsOf 3 = 1 := by kernel_rfl
theorem cBool : Tryd.prog.cellsOf 4 = 1 := by kernel_rfl
theorem cKind : Tryd.prog.cellsOf 127 = 5 := by kernel_rfl
theorem cKinds : Tryd.prog.cellsOf 164 = 70 := by kernel_rfl
theorem gKinds : Tryd.prog.globalNamed "loop.example/stilhold/impl.devKinds" = some 3 := by kernel_rfl
theorem tKinds : (Tryd.prog.globals[3]?).map (·.type) = some 164 := by kernel_rfl

theorem str_of {s : ByteArray} {l : List UInt8} (h : s.data.toList = l) : s = ⟨l.toArray⟩ := by
  subst h; rfl

section
variable {H : Type} {enc : TypeId × Value → H} {w : World} {base : Nat} {spare : Nat → Bool} {held : Bool}

set_option maxRecDepth 100000 in
/-- The five cells of one row of the table of kinds. -/
theorem kind_cells {fuel : Nat} {cs : List Value} {l : List UInt8} {z : Int} {a b c : Bool} {p : List MemPlace}
    (h : DataW.trod enc Tryd.prog w base spare held fuel 127 cs = some (.agg [.lit (.string l), .lit (.int .i64 z), .lit (.bool a), .lit (.bool b), .lit (.bool c)], p)) :
    cs = [.string ⟨l.toArray⟩, .int .i64 z, .bool a, .bool b, .bool c] := by
  obtain ⟨xs, m, -, hx, hl, hlen, hf⟩ := DataW.trod_struct Tryd.underlying127 h
  rw [cKind] at hl
  have h0 := hf 0 _ rfl
  have h1 := hf 1 _ rfl
  have h2 := hf 2 _ rfl
  have h3 := hf 3 _ rfl
  have h4 := hf 4 _ rfl
  clear hf h
  match xs, hlen with
  | [y0, y1, y2, y3, y4], _ =>
    match cs, hl with
    | [c0, c1, c2, c3, c4], _ =>
      obtain ⟨s0, e0, rfl, -⟩ := DataW.trod_string Tryd.underlying9 h0
      obtain ⟨n1, e1, rfl, -⟩ := DataW.trod_int Tryd.underlying3 h1
      obtain ⟨b2, e2, rfl⟩ := DataW.trod_bool Tryd.underlying4 h2
      obtain ⟨b3, e3, rfl⟩ := DataW.trod_bool Tryd.underlying4 h3
      obtain ⟨b4, e4, rfl⟩ := DataW.trod_bool Tryd.underlying4 h4
      simp at hx
      simp [cStr] at e0
      simp [cInt] at e1
      simp [cBool] at e2 e3 e4
      obtain ⟨⟨x0, x1, x2, x3, x4⟩, -⟩ := hx
      subst e0 e1 e2 e3 e4 x1 x2 x3 x4
      rw [str_of x0.symm]

end

theorem size_of {W : World} {n : String} {g : Nat} {cs : Array Value} (hg : Tryd.prog.globalNamed n = some g) (hv : W.var? Tryd.prog n = some cs) : g < W.heap.size := by
  unfold World.var? at hv
  simp only [hg, Option.bind_some] at hv
  cases hh : W.heap[g]? with
  | none => rw [hh] at hv; cases hv
  | some o => exact (Array.getElem?_eq_some_iff.1 hh).1

set_option maxRecDepth 100000 in
theorem ktab_of {H : Type} {enc : TypeId × Value → H} {W : World} {base : Nat} {spare : Nat → Bool} {held : Bool} {fuel : Nat} {cd : Array Value} {pd : List MemPlace} (hvd : W.var? Tryd.prog "loop.example/stilhold/impl.devKinds" = some cd)
    (hdd : DataW.trod enc Tryd.prog W base spare held fuel 164 cd.toList = some (Rows.laid_loop_example_stilhold_impl_devKinds, pd)) : KTab W := by
  have hrow : ∀ k : Nat, 1 ≤ k → k ≤ 13 → (cd.toList.drop (k * 5)).take 5 = [.string ⟨(letterL k).toArray⟩, .int .i64 (sizeZ k), .bool (bitB k), .bool (wholeB k), .bool (realB k)] := by
    obtain ⟨xs, m, -, hx, hl, hlen, hf⟩ := DataW.trod_array Tryd.underlying164 hdd
    simp only [cKind] at hf
    have hx1 := congrArg Prod.fst hx
    simp only [Rows.laid_loop_example_stilhold_impl_devKinds, DataW.agg.injEq] at hx1
    intro k h1 h2
    have hk := hf k (by omega)
    have hxk : k < xs.length := by omega
    rw [List.getElem?_eq_getElem hxk] at hk
    have hD : (xs.map (·.1))[k]? = some (xs[k].1) := by simp [hxk]
    rw [← hx1] at hD
    rw [show xs[k] = (xs[k].1, xs[k].2) from rfl] at hk
    have hcase : k = 1 ∨ k = 2 ∨ k = 3 ∨ k = 4 ∨ k = 5 ∨ k = 6 ∨ k = 7 ∨ k = 8 ∨ k = 9 ∨ k = 10 ∨ k = 11 ∨ k = 12 ∨ k = 13 := by omega
    rcases hcase with rfl | rfl | rfl | rfl | rfl | rfl | rfl | rfl | rfl | rfl | rfl | rfl | rfl
    all_goals
      rw [← Option.some.inj hD] at hk
      exact kind_cells hk
  have hkc : ∀ k j : Nat, 1 ≤ k → k ≤ 13 → j < 5 → W.cell? ⟨3, k * 5 + j, none⟩ = ([.string ⟨(letterL k).toArray⟩, .int .i64 (sizeZ k), .bool (bitB k), .bool (wholeB k), .bool (realB k)] : List Value)[j]? := by
    intro k j h1 h2 h3
    have e := World.var?_cell gKinds hvd (k * 5 + j)
    rw [e, ← hrow k h1 h2]
    simp [List.getElem?_drop, h3]
  exact ⟨size_of gKinds hvd, fun k a b => hkc k 0 a b (by omega), fun k a b => hkc k 1 a b (by omega), fun k a b => hkc k 2 a b (by omega), fun k a b => hkc k 3 a b (by omega), fun k a b => hkc k 4 a b (by omega)⟩

end Go.Proofs.YtdhoimjkgicneaaDoor
