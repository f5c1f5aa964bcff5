/- Texts of this proof laid together: PutA, DrQ. -/
import Derived.Test.YtdhoimjkgicneaaDoorLot35
import Derived.Test.YtdhoimjkgicneaaDoorLot36
import Derived.Test.YtdhoimjkgicneaaDoorLot37
import Derived.Test.YtdhoimjkgicneaaDoorLot25
import Derived.Test.YtdhoimjkgicneaaDoorLot38
import Derived.Test.YtdhoimjkgicneaaDoorLot41
import Derived.Deep.RegionHeld
import Derived.Deep.CutRange
import Derived.Test.YtdhoimjkgicneaaDoorLot18
import Derived.Test.YtdhoimjkgicneaaDoorLot13
/- The law that a bit that is put changes that bit and nothing else, walked. -/
namespace Go.Proofs.YtdhoimjkgicneaaDoor.PutB
open Go Go.RowKit

theorem same_self (v : MemV) : SameM v v := ⟨rfl, rfl, rfl, rfl, rfl, fun _ _ => rfl, fun _ _ => rfl, fun _ _ => rfl, fun _ _ => rfl, fun _ _ => rfl, fun _ _ => rfl, fun _ _ => same_refl _, rfl, rfl, rfl⟩

theorem same_true {a b : MemV} (ha : a.Ok) (hb : b.Ok) (h : SameM a b) (w : World) : Calls Tryd.prog 41 #[.agg a.row, .agg b.row] w fun e w' => e = .returned (.bool true) ∧ Below w.heap.size w w' :=
  (impl_same a b ha hb w).mono fun _ _ ⟨_, he, hq, hw⟩ => ⟨by rw [he, hq.2 h], hw⟩

theorem quiet_skip {ops : Array Oper} {C : World → Prop} {Q : Act → Prop} {rest : List Oper} {o : Oper} {a : Act} (hg : Region.wanted o (yielded ops a.tmps) = false) (h : wpQuiet Tryd.prog ops C Q rest (a.put o.dst undef)) : wpQuiet Tryd.prog ops C Q (o :: rest) a := by
  rw [wpQuiet, if_neg (by rw [hg]; exact Bool.false_ne_true)]
  exact h

theorem put_ok {v : MemV} {k : Int} (n : Int) (b : Bool) (hv : v.Ok) (h : 2 ≤ k ∧ k ≤ 5) : (putV v k n b).Ok := by
  rcases four h with rfl | rfl | rfl | rfl
  · have hl : (atZ 2 n).toNat < 32 := by show (n % 32).toNat < 32; omega
    exact ⟨hv.x, turn_small (s := 32) hv.y hl b, hv.m, hv.s, hv.e, hv.tC, hv.cC, hv.d1, hv.d2, hv.r, hv.time⟩
  · have hl : (atZ 3 n).toNat < 64 := by show (n % 64).toNat < 64; omega
    exact ⟨hv.x, hv.y, turn_small (s := 64) hv.m hl b, hv.s, hv.e, hv.tC, hv.cC, hv.d1, hv.d2, hv.r, hv.time⟩
  · have hl : (atZ 4 n).toNat < 16 := by show (n % 16).toNat < 16; omega
    exact ⟨hv.x, hv.y, hv.m, turn_small (s := 16) hv.s hl b, hv.e, hv.tC, hv.cC, hv.d1, hv.d2, hv.r, hv.time⟩
  · have hl : (atZ 5 n).toNat < 32 := by show (n % 32).toNat < 32; omega
    exact ⟨hv.x, hv.y, hv.m, hv.s, turn_small (s := 32) hv.e hl b, hv.tC, hv.cC, hv.d1, hv.d2, hv.r, hv.time⟩

/-- What is there behind the put: the memory, the operand, and the memory that was put. -/
structure Put5 (m r : MemV) (k n p : Int) (q q2 : Nat) (w wr : World) : Prop where
  M : MemAt q m wr
  P : MemAt q2 r wr
  G : ArgAt (q + 1) (.int .i64 k) (.int .i64 n) (.int .i64 p) wr
  b : Below w.heap.size w wr

theorem box_of {m : MemV} {k n p : Int} {q : Nat} {w w4 : World} (r : MemV) (hb : Below w.heap.size w w4) (M : MemAt q m w4) (G : ArgAt (q + 1) (.int .i64 k) (.int .i64 n) (.int .i64 p) w4) :
    MemAt w4.heap.size mem0 (w4.alloc (.cells Tryd.zeroCells61 61)) ∧
    (Instr.storeAt 61 (.pointer (some ⟨w4.heap.size, 0, none⟩)) (.agg r.row)).run Tryd.prog (w4.alloc (.cells Tryd.zeroCells61 61)) = .ok () ((w4.alloc (.cells Tryd.zeroCells61 61)).setCells w4.heap.size 0 r.row.toList) ∧
    Put5 m r k n p q w4.heap.size w ((w4.alloc (.cells Tryd.zeroCells61 61)).setCells w4.heap.size 0 r.row.toList) := by
  rw [zero_row]
  have h1 : Below w4.heap.size w4 (w4.alloc (.cells mem0.row 61)) := (Below.refl _ _).alloc (Nat.le_refl _) _
  have Z := MemAt.alloc mem0 w4 61
  have hz := M.z
  have gz := G.lt
  have hs := hb.size
  exact ⟨Z, store_mem r Z, (M.below h1 hz).other (by omega), Z.stored r, (G.below h1 gz).other (by omega), setCells_below _ _ _ (hb.alloc hs _) hs⟩

set_option maxRecDepth 100000 in
set_option maxHeartbeats 8000000 in
theorem law_short (a0 a1 : Option Addr) (l0 c0 l1 c1 : Nat) (w : World) (T : KTab w) (h0 : l0 ≤ 1048576) (h1 : l1 ≤ 1048576) (C0 : CodeAt (.slice a0 l0 c0) w) (C1 : CodeAt (.slice a1 l1 c1) w) :
    Calls Tryd.prog 8 #[.slice a0 l0 c0, .slice a1 l1 c1] w fun e w' => e = .returned (.bool true) ∧ Below w.heap.size w w' := by
  go_enter Tryd.func8, Tryd.ntmps8
  go_wp2_with fail
  refine (draw_put _ w C0).mono ?_
  rintro e w1 ⟨m, k, n, p, b, hm, rfl, hb⟩
  obtain ⟨Z, Y, D⟩ := drew_of (m := m) (k := k) (n := n) (p := p) hb 61 24
  have L1 := store_mem m Z
  have L2 := Y.store (x' := .int .i64 k) (y' := .int .i64 n) (z' := .int .i64 p) rfl rfl rfl
  have C1' := C1.below hb
  clear Z Y hb C0
  generalize ((((w1.alloc (.cells Tryd.zeroCells61 61)).alloc (.cells #[.int .i64 0, .int .i64 0, .int .i64 0] 24)).setCells w1.heap.size 0 m.row.toList).setCells (w1.heap.size + 1) 0 [.int .i64 k, .int .i64 n, .int .i64 p]) = w2 at D L2
  go_upto_region 4 with (refine list_store (t := 61) (x := .pointer (some ⟨w1.heap.size, 0, none⟩)) (u := .agg m.row) rfl rfl rfl rfl L1 ?_; refine list_store (t := 24) (x := .pointer (some ⟨w1.heap.size + 1, 0, none⟩)) (u := .agg #[.int .i64 k, .int .i64 n, .int .i64 p]) rfl rfl rfl rfl L2 ?_; simp only [Act.put]; clear L1 L2)
  generalize w1.heap.size = q at D ⊢
  obtain ⟨M, G, BW⟩ := D
  have g0 := G.c0
  have TT : ∀ w', Below w2.heap.size w2 w' → KTab w' := fun w' hw' => T.below (BW.trans (hw'.mono BW.size)) (Nat.le_refl _)
  obtain ⟨was, hwas⟩ : ∃ mb, mb = mbit m k n := ⟨_, rfl⟩
  have CW : ∀ w, KTab w → Calls Tryd.prog 39 #[.agg m.row, .agg #[.int .i64 k, .int .i64 n, .int .i64 p]] w fun e w' => e = .returned (.bool was) ∧ Below w.heap.size w w' := fun w T => hwas ▸ impl_membit m k n p w hm T
  have Hwas : Hid (was = mbit m k n) := hwas
  clear hwas
  obtain ⟨r, hr⟩ : ∃ r, r = putV m k n b := ⟨_, rfl⟩
  have CP : ∀ w, KTab w → Calls Tryd.prog 40 #[.agg m.row, .agg #[.int .i64 k, .int .i64 n, .int .i64 p], .bool b] w fun e w' => e = .returned (.agg r.row) ∧ Below w.heap.size w w' := fun w T => hr ▸ impl_memput m k n p b w hm T
  have Hr : Hid (r = putV m k n b) := hr
  clear hr
  go_upto_region 5 with (refine list_load (t := 61) rfl rfl rfl (load_mem M) ?_; refine list_load (t := 24) rfl rfl rfl G.load ?_)
  refine (CW w2 (TT w2 (Below.refl _ _))).mono ?_
  rintro e w3 ⟨rfl, hw3⟩
  have M3 := M.below hw3 M.z
  have G3 := G.below hw3 G.lt
  have BW3 := BW.trans (hw3.mono BW.size)
  have T3 : KTab w3 := T.below BW3 (Nat.le_refl _)
  clear M G BW TT hw3 g0 CW C1'
  go_upto_region 5 with fail
  go_upto_region 6 with (refine list_load (t := 61) rfl rfl rfl (load_mem M3) ?_; refine list_load (t := 24) rfl rfl rfl G3.load ?_)
  refine (CP w3 T3).mono ?_
  rintro e w4 ⟨rfl, hw4⟩
  have M4 := M3.below hw4 M3.z
  have G4 := G3.below hw4 G3.lt
  have BW4 := BW3.trans (hw4.mono BW3.size)
  clear M3 G3 BW3 T3 CP
  obtain ⟨Z, S, D5⟩ := box_of (m := m) (k := k) (n := n) (p := p) r BW4 M4 G4
  generalize ((w4.alloc (.cells Tryd.zeroCells61 61)).setCells w4.heap.size 0 r.row.toList) = w5 at D5 S
  clear hw4 M4 G4 BW4
  go_upto_region 6 with (refine list_store (t := 61) (x := .pointer (some ⟨w4.heap.size, 0, none⟩)) (u := .agg r.row) rfl rfl rfl rfl S ?_; simp only [Act.put]; clear S Z)
  generalize w4.heap.size = q2 at D5 ⊢
  obtain ⟨M5, P5, G5, BW5⟩ := D5
  by_cases hk : 2 ≤ k ∧ k ≤ 5
  · obtain ⟨hk1, hk2⟩ := hk
    have e1 : decide (k < 2) = false := by simp; omega
    have e2 : decide (5 < k) = false := by simp; omega
    have g0 := G5.c0
    go_upto_region 8 with fail
    go_wp2_with fail
    refine (draw_bit _ w5 (C1.below BW5)).mono ?_
    rintro e w6 ⟨m', k', n', p', hm', rfl, hb6⟩
    obtain ⟨Z, Y, D⟩ := drew_of (m := m') (k := k') (n := n') (p := p') hb6 61 24
    have L1 := store_mem m' Z
    have L2 := Y.store (x' := .int .i64 k') (y' := .int .i64 n') (z' := .int .i64 p') rfl rfl rfl
    clear Z Y hb6
    generalize ((((w6.alloc (.cells Tryd.zeroCells61 61)).alloc (.cells #[.int .i64 0, .int .i64 0, .int .i64 0] 24)).setCells w6.heap.size 0 m'.row.toList).setCells (w6.heap.size + 1) 0 [.int .i64 k', .int .i64 n', .int .i64 p']) = w7 at D L2
    go_upto_region 9 with (refine list_store (t := 61) (x := .pointer (some ⟨w6.heap.size, 0, none⟩)) (u := .agg m'.row) rfl rfl rfl rfl L1 ?_; refine list_store (t := 24) (x := .pointer (some ⟨w6.heap.size + 1, 0, none⟩)) (u := .agg #[.int .i64 k', .int .i64 n', .int .i64 p']) rfl rfl rfl rfl L2 ?_; simp only [Act.put]; clear L1 L2)
    generalize w6.heap.size = q6 at D ⊢
    obtain ⟨M7', O7, BW7'⟩ := D
    have M7 := M5.below BW7' M5.z
    have P7 := P5.below BW7' P5.z
    have G7 := G5.below BW7' G5.lt
    have BW7 := BW5.trans (BW7'.mono BW5.size)
    have T7 : KTab w7 := T.below BW7 (Nat.le_refl _)
    clear M7' BW7' M5 P5 G5 BW5 g0
    obtain ⟨nb, hnb⟩ : ∃ nb, nb = mbit m k' n' := ⟨_, rfl⟩
    have CN : ∀ w, KTab w → Calls Tryd.prog 39 #[.agg m.row, .agg #[.int .i64 k', .int .i64 n', .int .i64 p']] w fun e w' => e = .returned (.bool nb) ∧ Below w.heap.size w w' := fun w T => hnb ▸ impl_membit m k' n' p' w hm T
    have Hnb : Hid (nb = mbit m k' n') := hnb
    clear hnb
    go_upto_region 10 with (refine list_load (t := 61) rfl rfl rfl (load_mem M7) ?_; refine list_load (t := 24) rfl rfl rfl O7.load ?_)
    refine (CN w7 T7).mono ?_
    rintro e w8 ⟨rfl, hw8⟩
    have M := M7.below hw8 M7.z
    have P := P7.below hw8 P7.z
    have G := G7.below hw8 G7.lt
    have O := O7.below hw8 O7.lt
    have BW := BW7.trans (hw8.mono BW7.size)
    clear M7 P7 G7 O7 BW7 T7 hw8 CN
    go_upto_region 10 with fail
    have TT : ∀ w', Below w8.heap.size w8 w' → KTab w' := fun w' hw' => T.below (BW.trans (hw'.mono BW.size)) (Nat.le_refl _)
    obtain ⟨wz, hwz⟩ : ∃ wz, wz = wholeZ m k' n' := ⟨_, rfl⟩
    have hrm : r.Ok := by rw [Hr.out]; exact put_ok n b hm ⟨hk1, hk2⟩
    have W2 : ∀ w, KTab w → Calls Tryd.prog 43 #[.agg m.row, .agg #[.int .i64 k', .int .i64 n', .int .i64 p']] w fun e w' => e = .returned (.int .i16 wz) ∧ Below w.heap.size w w' := fun w T => hwz ▸ impl_memwhole m k' n' p' w hm T
    have hwz2 : wz = wholeZ r k' n' := by rw [hwz, Hr.out, put_whole]
    have W1 : ∀ w, KTab w → Calls Tryd.prog 43 #[.agg r.row, .agg #[.int .i64 k', .int .i64 n', .int .i64 p']] w fun e w' => e = .returned (.int .i16 wz) ∧ Below w.heap.size w w' := fun w T => hwz2 ▸ impl_memwhole r k' n' p' w hrm T
    clear hwz hwz2
    obtain ⟨oa, hoa⟩ : ∃ oa, oa = okB k n p := ⟨_, rfl⟩
    obtain ⟨oo, hoo⟩ : ∃ oo, oo = okB k' n' p' := ⟨_, rfl⟩
    have CA : ∀ w, Calls Tryd.prog 36 #[.agg #[.int .i64 k, .int .i64 n, .int .i64 p]] w fun e w' => e = .returned (.bool oa) ∧ Below w.heap.size w w' := fun w => hoa ▸ spec_ok k n p w
    have CO : ∀ w, Calls Tryd.prog 36 #[.agg #[.int .i64 k', .int .i64 n', .int .i64 p']] w fun e w' => e = .returned (.bool oo) ∧ Below w.heap.size w w' := fun w => hoo ▸ spec_ok k' n' p' w
    have CX : ∀ w, KTab w → Calls Tryd.prog 39 #[.agg r.row, .agg #[.int .i64 k, .int .i64 n, .int .i64 p]] w fun e w' => e = .returned (.bool b) ∧ Below w.heap.size w w' := by
      have h1 : mbit r k n = b := by rw [Hr.out]; exact put_bit m n b ⟨hk1, hk2⟩
      exact fun w T => h1 ▸ impl_membit r k n p w hrm T
    have CY : ∀ w, KTab w → Calls Tryd.prog 40 #[.agg r.row, .agg #[.int .i64 k, .int .i64 n, .int .i64 p], .bool was] w fun e w' => e = .returned (.agg m.row) ∧ Below w.heap.size w w' := by
      have h1 : putV r k n was = m := by rw [Hr.out, Hwas.out]; exact put_back m n b ⟨hk1, hk2⟩
      intro w T
      have h2 := impl_memput r k n p was w hrm T
      rw [h1] at h2
      exact h2
    have CZ : ∀ w, Calls Tryd.prog 41 #[.agg m.row, .agg m.row] w fun e w' => e = .returned (.bool true) ∧ Below w.heap.size w w' := fun w => same_true hm hm (same_self m) w
    cases oa with
    | false =>
      clear hoa hoo
      refine wp_region_belowM (by kernel_rfl) (by kernel_rfl) ?_
      refine quiet_load (t := 24) (v := (.agg #[.int .i64 k, .int .i64 n, .int .i64 p])) rfl rfl rfl (fun w' hw' => (G.below hw' G.lt).load) ?_
      go_simp
      refine wpQuiet_step (fun K hK => ?_)
      go_simp
      refine ⟨(.bool false), fun w' hw' => (CA w').mono fun e w'' ⟨he, hb⟩ => ⟨he, hw'.trans (hb.mono hw'.size)⟩, hK _ ?_⟩
      clear hK K
      quiet_step (exact fun _ => rfl)
      refine quiet_skip rfl ?_
      go_simp
      refine quiet_skip rfl ?_
      go_simp
      quiet_step (exact fun _ => rfl)
      quiet_step (exact fun _ => rfl)
      refine quiet_skip rfl ?_
      go_simp
      refine quiet_skip rfl ?_
      go_simp
      refine quiet_skip rfl ?_
      go_simp
      quiet_step (exact fun _ => rfl)
      quiet_step (exact fun _ => rfl)
      refine quiet_skip rfl ?_
      go_simp
      refine quiet_skip rfl ?_
      go_simp
      refine quiet_skip rfl ?_
      go_simp
      refine quiet_skip rfl ?_
      go_simp
      refine quiet_skip rfl ?_
      go_simp
      quiet_step (exact fun _ => rfl)
      quiet_step (exact fun _ => rfl)
      refine quiet_load (t := 61) (v := .agg r.row) rfl rfl rfl (fun w' hw' => load_mem (P.below hw' P.z)) ?_
      go_simp
      refine quiet_load (t := 24) (v := (.agg #[.int .i64 k', .int .i64 n', .int .i64 p'])) rfl rfl rfl (fun w' hw' => (O.below hw' O.lt).load) ?_
      go_simp
      refine wpQuiet_step (fun K hK => ?_)
      go_simp
      refine ⟨(.int .i16 wz), fun w' hw' => (W1 w' (TT w' hw')).mono fun e w'' ⟨he, hb⟩ => ⟨he, hw'.trans (hb.mono hw'.size)⟩, hK _ ?_⟩
      clear hK K
      refine quiet_load (t := 61) (v := .agg m.row) rfl rfl rfl (fun w' hw' => load_mem (M.below hw' M.z)) ?_
      go_simp
      refine quiet_load (t := 24) (v := (.agg #[.int .i64 k', .int .i64 n', .int .i64 p'])) rfl rfl rfl (fun w' hw' => (O.below hw' O.lt).load) ?_
      go_simp
      refine wpQuiet_step (fun K hK => ?_)
      go_simp
      refine ⟨(.int .i16 wz), fun w' hw' => (W2 w' (TT w' hw')).mono fun e w'' ⟨he, hb⟩ => ⟨he, hw'.trans (hb.mono hw'.size)⟩, hK _ ?_⟩
      clear hK K
      refine wpQuiet_step (fun K hK => ?_)
      go_simp
      refine ⟨.bool false, fun _ _ => by simp, hK _ ?_⟩
      clear hK K
      quiet_step (exact fun _ => rfl)
      refine wpQuiet_nil ?_
      intro w9 hw9
      have M9 := M.below hw9 M.z
      have P9 := P.below hw9 P.z
      have G9 := G.below hw9 G.lt
      have BW9 := BW.trans (hw9.mono BW.size)
      clear M P G O BW TT CA CO W1 W2 hw9
      go_upto_region 12 with fail
      have TT : ∀ w', Below w9.heap.size w9 w' → KTab w' := fun w' hw' => T.below (BW9.trans (hw'.mono BW9.size)) (Nat.le_refl _)
      refine wp_region_belowM (by kernel_rfl) (by kernel_rfl) ?_
      refine quiet_load (t := 61) (v := .agg r.row) rfl rfl rfl (fun w' hw' => load_mem (P9.below hw' P9.z)) ?_
      go_simp
      refine quiet_load (t := 24) (v := (.agg #[.int .i64 k, .int .i64 n, .int .i64 p])) rfl rfl rfl (fun w' hw' => (G9.below hw' G9.lt).load) ?_
      go_simp
      refine wpQuiet_step (fun K hK => ?_)
      go_simp
      refine ⟨(.bool b), fun w' hw' => (CX w' (TT w' hw')).mono fun e w'' ⟨he, hb⟩ => ⟨he, hw'.trans (hb.mono hw'.size)⟩, hK _ ?_⟩
      clear hK K
      quiet_step (exact fun _ => rfl)
      refine wpQuiet_step (fun K hK => ?_)
      go_simp
      refine ⟨.bool true, fun _ _ => by simp, hK _ ?_⟩
      clear hK K
      quiet_step (exact fun _ => rfl)
      refine quiet_load (t := 61) (v := .agg r.row) rfl rfl rfl (fun w' hw' => load_mem (P9.below hw' P9.z)) ?_
      go_simp
      refine quiet_load (t := 24) (v := (.agg #[.int .i64 k, .int .i64 n, .int .i64 p])) rfl rfl rfl (fun w' hw' => (G9.below hw' G9.lt).load) ?_
      go_simp
      quiet_step (exact fun _ => rfl)
      refine wpQuiet_step (fun K hK => ?_)
      go_simp
      refine ⟨(.agg m.row), fun w' hw' => (CY w' (TT w' hw')).mono fun e w'' ⟨he, hb⟩ => ⟨he, hw'.trans (hb.mono hw'.size)⟩, hK _ ?_⟩
      clear hK K
      refine quiet_load (t := 61) (v := .agg m.row) rfl rfl rfl (fun w' hw' => load_mem (M9.below hw' M9.z)) ?_
      go_simp
      refine wpQuiet_step (fun K hK => ?_)
      go_simp
      refine ⟨(.bool true), fun w' hw' => (CZ w').mono fun e w'' ⟨he, hb⟩ => ⟨he, hw'.trans (hb.mono hw'.size)⟩, hK _ ?_⟩
      clear hK K
      quiet_step (exact fun _ => rfl)
      quiet_step (exact fun _ => rfl)
      refine wpQuiet_nil ?_
      intro w10 hw10
      have BW10 := BW9.trans (hw10.mono BW9.size)
      clear hw10 TT M9 P9 G9 BW9 CX CY CZ
      go_wp2_with fail
      go_ret
      exact ⟨rfl, BW10⟩
    | true =>
      cases oo with
      | false =>
        clear hoa hoo
        refine wp_region_belowM (by kernel_rfl) (by kernel_rfl) ?_
        refine quiet_load (t := 24) (v := (.agg #[.int .i64 k, .int .i64 n, .int .i64 p])) rfl rfl rfl (fun w' hw' => (G.below hw' G.lt).load) ?_
        go_simp
        refine wpQuiet_step (fun K hK => ?_)
        go_simp
        refine ⟨(.bool true), fun w' hw' => (CA w').mono fun e w'' ⟨he, hb⟩ => ⟨he, hw'.trans (hb.mono hw'.size)⟩, hK _ ?_⟩
        clear hK K
        quiet_step (exact fun _ => rfl)
        refine quiet_load (t := 24) (v := (.agg #[.int .i64 k', .int .i64 n', .int .i64 p'])) rfl rfl rfl (fun w' hw' => (O.below hw' O.lt).load) ?_
        go_simp
        refine wpQuiet_step (fun K hK => ?_)
        go_simp
        refine ⟨(.bool false), fun w' hw' => (CO w').mono fun e w'' ⟨he, hb⟩ => ⟨he, hw'.trans (hb.mono hw'.size)⟩, hK _ ?_⟩
        clear hK K
        quiet_step (exact fun _ => rfl)
        quiet_step (exact fun _ => rfl)
        refine quiet_skip rfl ?_
        go_simp
        refine quiet_skip rfl ?_
        go_simp
        refine quiet_skip rfl ?_
        go_simp
        quiet_step (exact fun _ => rfl)
        quiet_step (exact fun _ => rfl)
        refine quiet_skip rfl ?_
        go_simp
        refine quiet_skip rfl ?_
        go_simp
        refine quiet_skip rfl ?_
        go_simp
        refine quiet_skip rfl ?_
        go_simp
        refine quiet_skip rfl ?_
        go_simp
        quiet_step (exact fun _ => rfl)
        quiet_step (exact fun _ => rfl)
        refine quiet_load (t := 61) (v := .agg r.row) rfl rfl rfl (fun w' hw' => load_mem (P.below hw' P.z)) ?_
        go_simp
        refine quiet_load (t := 24) (v := (.agg #[.int .i64 k', .int .i64 n', .int .i64 p'])) rfl rfl rfl (fun w' hw' => (O.below hw' O.lt).load) ?_
        go_simp
        refine wpQuiet_step (fun K hK => ?_)
        go_simp
        refine ⟨(.int .i16 wz), fun w' hw' => (W1 w' (TT w' hw')).mono fun e w'' ⟨he, hb⟩ => ⟨he, hw'.trans (hb.mono hw'.size)⟩, hK _ ?_⟩
        clear hK K
        refine quiet_load (t := 61) (v := .agg m.row) rfl rfl rfl (fun w' hw' => load_mem (M.below hw' M.z)) ?_
        go_simp
        refine quiet_load (t := 24) (v := (.agg #[.int .i64 k', .int .i64 n', .int .i64 p'])) rfl rfl rfl (fun w' hw' => (O.below hw' O.lt).load) ?_
        go_simp
        refine wpQuiet_step (fun K hK => ?_)
        go_simp
        refine ⟨(.int .i16 wz), fun w' hw' => (W2 w' (TT w' hw')).mono fun e w'' ⟨he, hb⟩ => ⟨he, hw'.trans (hb.mono hw'.size)⟩, hK _ ?_⟩
        clear hK K
        refine wpQuiet_step (fun K hK => ?_)
        go_simp
        refine ⟨.bool false, fun _ _ => by simp, hK _ ?_⟩
        clear hK K
        quiet_step (exact fun _ => rfl)
        refine wpQuiet_nil ?_
        intro w9 hw9
        have M9 := M.below hw9 M.z
        have P9 := P.below hw9 P.z
        have G9 := G.below hw9 G.lt
        have BW9 := BW.trans (hw9.mono BW.size)
        clear M P G O BW TT CA CO W1 W2 hw9
        go_upto_region 12 with fail
        have TT : ∀ w', Below w9.heap.size w9 w' → KTab w' := fun w' hw' => T.below (BW9.trans (hw'.mono BW9.size)) (Nat.le_refl _)
        refine wp_region_belowM (by kernel_rfl) (by kernel_rfl) ?_
        refine quiet_load (t := 61) (v := .agg r.row) rfl rfl rfl (fun w' hw' => load_mem (P9.below hw' P9.z)) ?_
        go_simp
        refine quiet_load (t := 24) (v := (.agg #[.int .i64 k, .int .i64 n, .int .i64 p])) rfl rfl rfl (fun w' hw' => (G9.below hw' G9.lt).load) ?_
        go_simp
        refine wpQuiet_step (fun K hK => ?_)
        go_simp
        refine ⟨(.bool b), fun w' hw' => (CX w' (TT w' hw')).mono fun e w'' ⟨he, hb⟩ => ⟨he, hw'.trans (hb.mono hw'.size)⟩, hK _ ?_⟩
        clear hK K
        quiet_step (exact fun _ => rfl)
        refine wpQuiet_step (fun K hK => ?_)
        go_simp
        refine ⟨.bool true, fun _ _ => by simp, hK _ ?_⟩
        clear hK K
        quiet_step (exact fun _ => rfl)
        refine quiet_load (t := 61) (v := .agg r.row) rfl rfl rfl (fun w' hw' => load_mem (P9.below hw' P9.z)) ?_
        go_simp
        refine quiet_load (t := 24) (v := (.agg #[.int .i64 k, .int .i64 n, .int .i64 p])) rfl rfl rfl (fun w' hw' => (G9.below hw' G9.lt).load) ?_
        go_simp
        quiet_step (exact fun _ => rfl)
        refine wpQuiet_step (fun K hK => ?_)
        go_simp
        refine ⟨(.agg m.row), fun w' hw' => (CY w' (TT w' hw')).mono fun e w'' ⟨he, hb⟩ => ⟨he, hw'.trans (hb.mono hw'.size)⟩, hK _ ?_⟩
        clear hK K
        refine quiet_load (t := 61) (v := .agg m.row) rfl rfl rfl (fun w' hw' => load_mem (M9.below hw' M9.z)) ?_
        go_simp
        refine wpQuiet_step (fun K hK => ?_)
        go_simp
        refine ⟨(.bool true), fun w' hw' => (CZ w').mono fun e w'' ⟨he, hb⟩ => ⟨he, hw'.trans (hb.mono hw'.size)⟩, hK _ ?_⟩
        clear hK K
        quiet_step (exact fun _ => rfl)
        quiet_step (exact fun _ => rfl)
        refine wpQuiet_nil ?_
        intro w10 hw10
        have BW10 := BW9.trans (hw10.mono BW9.size)
        clear hw10 TT M9 P9 G9 BW9 CX CY CZ
        go_wp2_with fail
        go_ret
        exact ⟨rfl, BW10⟩
      | true =>
        cases hq : decide (k' = k ∧ n' = n ∧ p' = p) with
        | true =>
          clear hoa hoo
          refine wp_region_belowM (by kernel_rfl) (by kernel_rfl) ?_
          refine quiet_load (t := 24) (v := (.agg #[.int .i64 k, .int .i64 n, .int .i64 p])) rfl rfl rfl (fun w' hw' => (G.below hw' G.lt).load) ?_
          go_simp
          refine wpQuiet_step (fun K hK => ?_)
          go_simp
          refine ⟨(.bool true), fun w' hw' => (CA w').mono fun e w'' ⟨he, hb⟩ => ⟨he, hw'.trans (hb.mono hw'.size)⟩, hK _ ?_⟩
          clear hK K
          quiet_step (exact fun _ => rfl)
          refine quiet_load (t := 24) (v := (.agg #[.int .i64 k', .int .i64 n', .int .i64 p'])) rfl rfl rfl (fun w' hw' => (O.below hw' O.lt).load) ?_
          go_simp
          refine wpQuiet_step (fun K hK => ?_)
          go_simp
          refine ⟨(.bool true), fun w' hw' => (CO w').mono fun e w'' ⟨he, hb⟩ => ⟨he, hw'.trans (hb.mono hw'.size)⟩, hK _ ?_⟩
          clear hK K
          quiet_step (exact fun _ => rfl)
          quiet_step (exact fun _ => rfl)
          refine quiet_load (t := 24) (v := (.agg #[.int .i64 k', .int .i64 n', .int .i64 p'])) rfl rfl rfl (fun w' hw' => (O.below hw' O.lt).load) ?_
          go_simp
          refine quiet_load (t := 24) (v := (.agg #[.int .i64 k, .int .i64 n, .int .i64 p])) rfl rfl rfl (fun w' hw' => (G.below hw' G.lt).load) ?_
          go_simp
          refine quiet_bin (op := .neq) (t := 24) (u1 := .agg #[.int .i64 k', .int .i64 n', .int .i64 p']) (u2 := .agg #[.int .i64 k, .int .i64 n, .int .i64 p]) (v := .bool false) rfl rfl rfl rfl (fun w' => run_eqGuard_agg w' _ _ _ _ _ _ (by kernel_rfl)) (fun w' => (neq_arg k n p k' n' p' w').trans (by rw [hq]; rfl)) ?_
          go_simp
          quiet_step (exact fun _ => rfl)
          quiet_step (exact fun _ => rfl)
          refine quiet_skip rfl ?_
          go_simp
          refine quiet_skip rfl ?_
          go_simp
          refine quiet_skip rfl ?_
          go_simp
          refine quiet_skip rfl ?_
          go_simp
          refine quiet_skip rfl ?_
          go_simp
          quiet_step (exact fun _ => rfl)
          quiet_step (exact fun _ => rfl)
          refine quiet_load (t := 61) (v := .agg r.row) rfl rfl rfl (fun w' hw' => load_mem (P.below hw' P.z)) ?_
          go_simp
          refine quiet_load (t := 24) (v := (.agg #[.int .i64 k', .int .i64 n', .int .i64 p'])) rfl rfl rfl (fun w' hw' => (O.below hw' O.lt).load) ?_
          go_simp
          refine wpQuiet_step (fun K hK => ?_)
          go_simp
          refine ⟨(.int .i16 wz), fun w' hw' => (W1 w' (TT w' hw')).mono fun e w'' ⟨he, hb⟩ => ⟨he, hw'.trans (hb.mono hw'.size)⟩, hK _ ?_⟩
          clear hK K
          refine quiet_load (t := 61) (v := .agg m.row) rfl rfl rfl (fun w' hw' => load_mem (M.below hw' M.z)) ?_
          go_simp
          refine quiet_load (t := 24) (v := (.agg #[.int .i64 k', .int .i64 n', .int .i64 p'])) rfl rfl rfl (fun w' hw' => (O.below hw' O.lt).load) ?_
          go_simp
          refine wpQuiet_step (fun K hK => ?_)
          go_simp
          refine ⟨(.int .i16 wz), fun w' hw' => (W2 w' (TT w' hw')).mono fun e w'' ⟨he, hb⟩ => ⟨he, hw'.trans (hb.mono hw'.size)⟩, hK _ ?_⟩
          clear hK K
          refine wpQuiet_step (fun K hK => ?_)
          go_simp
          refine ⟨.bool false, fun _ _ => by simp, hK _ ?_⟩
          clear hK K
          quiet_step (exact fun _ => rfl)
          refine wpQuiet_nil ?_
          intro w9 hw9
          have M9 := M.below hw9 M.z
          have P9 := P.below hw9 P.z
          have G9 := G.below hw9 G.lt
          have BW9 := BW.trans (hw9.mono BW.size)
          clear M P G O BW TT CA CO W1 W2 hw9
          go_upto_region 12 with fail
          have TT : ∀ w', Below w9.heap.size w9 w' → KTab w' := fun w' hw' => T.below (BW9.trans (hw'.mono BW9.size)) (Nat.le_refl _)
          refine wp_region_belowM (by kernel_rfl) (by kernel_rfl) ?_
          refine quiet_load (t := 61) (v := .agg r.row) rfl rfl rfl (fun w' hw' => load_mem (P9.below hw' P9.z)) ?_
          go_simp
          refine quiet_load (t := 24) (v := (.agg #[.int .i64 k, .int .i64 n, .int .i64 p])) rfl rfl rfl (fun w' hw' => (G9.below hw' G9.lt).load) ?_
          go_simp
          refine wpQuiet_step (fun K hK => ?_)
          go_simp
          refine ⟨(.bool b), fun w' hw' => (CX w' (TT w' hw')).mono fun e w'' ⟨he, hb⟩ => ⟨he, hw'.trans (hb.mono hw'.size)⟩, hK _ ?_⟩
          clear hK K
          quiet_step (exact fun _ => rfl)
          refine wpQuiet_step (fun K hK => ?_)
          go_simp
          refine ⟨.bool true, fun _ _ => by simp, hK _ ?_⟩
          clear hK K
          quiet_step (exact fun _ => rfl)
          refine quiet_load (t := 61) (v := .agg r.row) rfl rfl rfl (fun w' hw' => load_mem (P9.below hw' P9.z)) ?_
          go_simp
          refine quiet_load (t := 24) (v := (.agg #[.int .i64 k, .int .i64 n, .int .i64 p])) rfl rfl rfl (fun w' hw' => (G9.below hw' G9.lt).load) ?_
          go_simp
          quiet_step (exact fun _ => rfl)
          refine wpQuiet_step (fun K hK => ?_)
          go_simp
          refine ⟨(.agg m.row), fun w' hw' => (CY w' (TT w' hw')).mono fun e w'' ⟨he, hb⟩ => ⟨he, hw'.trans (hb.mono hw'.size)⟩, hK _ ?_⟩
          clear hK K
          refine quiet_load (t := 61) (v := .agg m.row) rfl rfl rfl (fun w' hw' => load_mem (M9.below hw' M9.z)) ?_
          go_simp
          refine wpQuiet_step (fun K hK => ?_)
          go_simp
          refine ⟨(.bool true), fun w' hw' => (CZ w').mono fun e w'' ⟨he, hb⟩ => ⟨he, hw'.trans (hb.mono hw'.size)⟩, hK _ ?_⟩
          clear hK K
          quiet_step (exact fun _ => rfl)
          quiet_step (exact fun _ => rfl)
          refine wpQuiet_nil ?_
          intro w10 hw10
          have BW10 := BW9.trans (hw10.mono BW9.size)
          clear hw10 TT M9 P9 G9 BW9 CX CY CZ
          go_wp2_with fail
          go_ret
          exact ⟨rfl, BW10⟩
        | false =>
          have CB : ∀ w, KTab w → Calls Tryd.prog 39 #[.agg r.row, .agg #[.int .i64 k', .int .i64 n', .int .i64 p']] w fun e w' => e = .returned (.bool nb) ∧ Below w.heap.size w w' := by
            have h1 : nb = mbit r k' n' := by rw [Hnb.out, Hr.out]; exact (put_other m b ⟨hk1, hk2⟩ hoa.symm hoo.symm (by simpa using hq)).symm
            exact fun w T => h1 ▸ impl_membit r k' n' p' w hrm T
          clear hoa hoo
          refine wp_region_belowM (by kernel_rfl) (by kernel_rfl) ?_
          refine quiet_load (t := 24) (v := (.agg #[.int .i64 k, .int .i64 n, .int .i64 p])) rfl rfl rfl (fun w' hw' => (G.below hw' G.lt).load) ?_
          go_simp
          refine wpQuiet_step (fun K hK => ?_)
          go_simp
          refine ⟨(.bool true), fun w' hw' => (CA w').mono fun e w'' ⟨he, hb⟩ => ⟨he, hw'.trans (hb.mono hw'.size)⟩, hK _ ?_⟩
          clear hK K
          quiet_step (exact fun _ => rfl)
          refine quiet_load (t := 24) (v := (.agg #[.int .i64 k', .int .i64 n', .int .i64 p'])) rfl rfl rfl (fun w' hw' => (O.below hw' O.lt).load) ?_
          go_simp
          refine wpQuiet_step (fun K hK => ?_)
          go_simp
          refine ⟨(.bool true), fun w' hw' => (CO w').mono fun e w'' ⟨he, hb⟩ => ⟨he, hw'.trans (hb.mono hw'.size)⟩, hK _ ?_⟩
          clear hK K
          quiet_step (exact fun _ => rfl)
          quiet_step (exact fun _ => rfl)
          refine quiet_load (t := 24) (v := (.agg #[.int .i64 k', .int .i64 n', .int .i64 p'])) rfl rfl rfl (fun w' hw' => (O.below hw' O.lt).load) ?_
          go_simp
          refine quiet_load (t := 24) (v := (.agg #[.int .i64 k, .int .i64 n, .int .i64 p])) rfl rfl rfl (fun w' hw' => (G.below hw' G.lt).load) ?_
          go_simp
          refine quiet_bin (op := .neq) (t := 24) (u1 := .agg #[.int .i64 k', .int .i64 n', .int .i64 p']) (u2 := .agg #[.int .i64 k, .int .i64 n, .int .i64 p]) (v := .bool true) rfl rfl rfl rfl (fun w' => run_eqGuard_agg w' _ _ _ _ _ _ (by kernel_rfl)) (fun w' => (neq_arg k n p k' n' p' w').trans (by rw [hq]; rfl)) ?_
          go_simp
          quiet_step (exact fun _ => rfl)
          quiet_step (exact fun _ => rfl)
          refine quiet_load (t := 61) (v := .agg r.row) rfl rfl rfl (fun w' hw' => load_mem (P.below hw' P.z)) ?_
          go_simp
          refine quiet_load (t := 24) (v := (.agg #[.int .i64 k', .int .i64 n', .int .i64 p'])) rfl rfl rfl (fun w' hw' => (O.below hw' O.lt).load) ?_
          go_simp
          refine wpQuiet_step (fun K hK => ?_)
          go_simp
          refine ⟨(.bool nb), fun w' hw' => (CB w' (TT w' hw')).mono fun e w'' ⟨he, hb⟩ => ⟨he, hw'.trans (hb.mono hw'.size)⟩, hK _ ?_⟩
          clear hK K
          quiet_step (exact fun _ => rfl)
          refine wpQuiet_step (fun K hK => ?_)
          go_simp
          refine ⟨.bool false, fun _ _ => by simp, hK _ ?_⟩
          clear hK K
          quiet_step (exact fun _ => rfl)
          quiet_step (exact fun _ => rfl)
          refine quiet_load (t := 61) (v := .agg r.row) rfl rfl rfl (fun w' hw' => load_mem (P.below hw' P.z)) ?_
          go_simp
          refine quiet_load (t := 24) (v := (.agg #[.int .i64 k', .int .i64 n', .int .i64 p'])) rfl rfl rfl (fun w' hw' => (O.below hw' O.lt).load) ?_
          go_simp
          refine wpQuiet_step (fun K hK => ?_)
          go_simp
          refine ⟨(.int .i16 wz), fun w' hw' => (W1 w' (TT w' hw')).mono fun e w'' ⟨he, hb⟩ => ⟨he, hw'.trans (hb.mono hw'.size)⟩, hK _ ?_⟩
          clear hK K
          refine quiet_load (t := 61) (v := .agg m.row) rfl rfl rfl (fun w' hw' => load_mem (M.below hw' M.z)) ?_
          go_simp
          refine quiet_load (t := 24) (v := (.agg #[.int .i64 k', .int .i64 n', .int .i64 p'])) rfl rfl rfl (fun w' hw' => (O.below hw' O.lt).load) ?_
          go_simp
          refine wpQuiet_step (fun K hK => ?_)
          go_simp
          refine ⟨(.int .i16 wz), fun w' hw' => (W2 w' (TT w' hw')).mono fun e w'' ⟨he, hb⟩ => ⟨he, hw'.trans (hb.mono hw'.size)⟩, hK _ ?_⟩
          clear hK K
          refine wpQuiet_step (fun K hK => ?_)
          go_simp
          refine ⟨.bool false, fun _ _ => by simp, hK _ ?_⟩
          clear hK K
          quiet_step (exact fun _ => rfl)
          refine wpQuiet_nil ?_
          intro w9 hw9
          have M9 := M.below hw9 M.z
          have P9 := P.below hw9 P.z
          have G9 := G.below hw9 G.lt
          have BW9 := BW.trans (hw9.mono BW.size)
          clear M P G O BW TT CA CO W1 W2 hw9
          go_upto_region 12 with fail
          have TT : ∀ w', Below w9.heap.size w9 w' → KTab w' := fun w' hw' => T.below (BW9.trans (hw'.mono BW9.size)) (Nat.le_refl _)
          refine wp_region_belowM (by kernel_rfl) (by kernel_rfl) ?_
          refine quiet_load (t := 61) (v := .agg r.row) rfl rfl rfl (fun w' hw' => load_mem (P9.below hw' P9.z)) ?_
          go_simp
          refine quiet_load (t := 24) (v := (.agg #[.int .i64 k, .int .i64 n, .int .i64 p])) rfl rfl rfl (fun w' hw' => (G9.below hw' G9.lt).load) ?_
          go_simp
          refine wpQuiet_step (fun K hK => ?_)
          go_simp
          refine ⟨(.bool b), fun w' hw' => (CX w' (TT w' hw')).mono fun e w'' ⟨he, hb⟩ => ⟨he, hw'.trans (hb.mono hw'.size)⟩, hK _ ?_⟩
          clear hK K
          quiet_step (exact fun _ => rfl)
          refine wpQuiet_step (fun K hK => ?_)
          go_simp
          refine ⟨.bool true, fun _ _ => by simp, hK _ ?_⟩
          clear hK K
          quiet_step (exact fun _ => rfl)
          refine quiet_load (t := 61) (v := .agg r.row) rfl rfl rfl (fun w' hw' => load_mem (P9.below hw' P9.z)) ?_
          go_simp
          refine quiet_load (t := 24) (v := (.agg #[.int .i64 k, .int .i64 n, .int .i64 p])) rfl rfl rfl (fun w' hw' => (G9.below hw' G9.lt).load) ?_
          go_simp
          quiet_step (exact fun _ => rfl)
          refine wpQuiet_step (fun K hK => ?_)
          go_simp
          refine ⟨(.agg m.row), fun w' hw' => (CY w' (TT w' hw')).mono fun e w'' ⟨he, hb⟩ => ⟨he, hw'.trans (hb.mono hw'.size)⟩, hK _ ?_⟩
          clear hK K
          refine quiet_load (t := 61) (v := .agg m.row) rfl rfl rfl (fun w' hw' => load_mem (M9.below hw' M9.z)) ?_
          go_simp
          refine wpQuiet_step (fun K hK => ?_)
          go_simp
          refine ⟨(.bool true), fun w' hw' => (CZ w').mono fun e w'' ⟨he, hb⟩ => ⟨he, hw'.trans (hb.mono hw'.size)⟩, hK _ ?_⟩
          clear hK K
          quiet_step (exact fun _ => rfl)
          quiet_step (exact fun _ => rfl)
          refine wpQuiet_nil ?_
          intro w10 hw10
          have BW10 := BW9.trans (hw10.mono BW9.size)
          clear hw10 TT M9 P9 G9 BW9 CX CY CZ
          go_wp2_with fail
          go_ret
          exact ⟨rfl, BW10⟩
  · have e0 : r = m := Hr.out.trans (put_none m b hk)
    have CS : ∀ w, Calls Tryd.prog 41 #[.agg r.row, .agg m.row] w fun e w' => e = .returned (.bool true) ∧ Below w.heap.size w w' := fun w => same_true (e0 ▸ hm) hm (e0 ▸ same_self r) w
    clear e0
    have g0 := G5.c0
    by_cases h2 : k < 2
    · have e1 : decide (k < 2) = true := by simpa using h2
      go_upto_region 7 with fail
      go_wp2_with (refine list_load (t := 61) rfl rfl rfl (load_mem P5) ?_; refine list_load (t := 61) rfl rfl rfl (load_mem M5) ?_)
      refine (CS w5).mono ?_
      rintro e w6 ⟨rfl, hb6⟩
      have BW6 := BW5.trans (hb6.mono BW5.size)
      clear M5 P5 G5 BW5 hb6 CS
      go_wp2_with fail
      go_ret
      exact ⟨rfl, BW6⟩
    · have e1 : decide (k < 2) = false := by simpa using h2
      have e2 : decide (5 < k) = true := by simp; omega
      go_upto_region 7 with fail
      go_wp2_with (refine list_load (t := 61) rfl rfl rfl (load_mem P5) ?_; refine list_load (t := 61) rfl rfl rfl (load_mem M5) ?_)
      refine (CS w5).mono ?_
      rintro e w6 ⟨rfl, hb6⟩
      have BW6 := BW5.trans (hb6.mono BW5.size)
      clear M5 P5 G5 BW5 hb6 CS
      go_wp2_with fail
      go_ret
      exact ⟨rfl, BW6⟩

set_option maxHeartbeats 400000 in
theorem law_long (a0 a1 : Option Addr) (l0 c0 l1 c1 : Nat) (w : World) (h : 1048576 < l0 ∨ 1048576 < l1) :
    Calls Tryd.prog 8 #[.slice a0 l0 c0, .slice a1 l1 c1] w fun e w' => e = .returned (.bool true) ∧ Below w.heap.size w w' := by
  by_cases h0 : 1048576 < l0
  · go_enter Tryd.func8, Tryd.ntmps8
    go_wp2
    go_ret
    exact ⟨rfl, Below.refl _ _⟩
  · have h1 : 1048576 < l1 := by omega
    clear h
    go_enter Tryd.func8, Tryd.ntmps8
    go_wp2
    go_ret
    exact ⟨rfl, Below.refl _ _⟩

theorem law (a0 a1 : Option Addr) (l0 c0 l1 c1 : Nat) (w : World) (C0 : CodeAt (.slice a0 l0 c0) w) (C1 : CodeAt (.slice a1 l1 c1) w) (T : KTab w) :
    Calls Tryd.prog 8 #[.slice a0 l0 c0, .slice a1 l1 c1] w fun e w' => e = .returned (.bool true) ∧ Below w.heap.size w w' := by
  by_cases hs : 1048576 < l0 ∨ 1048576 < l1
  · exact law_long a0 a1 l0 c0 l1 c1 w hs
  · exact law_short a0 a1 l0 c0 l1 c1 w T (by omega) (by omega) C0 C1

end Go.Proofs.YtdhoimjkgicneaaDoor.PutB

/- A drawn memory with an operand and a number to put. -/
namespace Go.Proofs.YtdhoimjkgicneaaDoor
open Go Go.RowKit

set_option maxRecDepth 100000 in
set_option maxHeartbeats 2000000 in
theorem draw_putW (v : Value) (w : World) (h : CodeAt v w) :
    Calls Tryd.prog 44 #[v] w fun e w' => ∃ (m : MemV) (k n p : Int) (x : Int), m.Ok ∧ (-32768 ≤ x ∧ x ≤ 32767) ∧ e = .returned (.tuple #[.agg m.row, .agg #[.int .i64 k, .int .i64 n, .int .i64 p], .int .i16 x]) ∧ Below w.heap.size w w' := by
  have h' : CodeAt v ((w.alloc (.cells Tryd.zeroCells61 61)).alloc (.cells #[.int .i64 0, .int .i64 0, .int .i64 0] 24)) := (h.below ((Below.refl w.heap.size w).alloc (Nat.le_refl _) _)).below ((Below.refl _ _).alloc (Nat.le_refl _) _)
  go_enter Tryd.func44, Tryd.ntmps44
  go_wp2_with fail
  refine (open_any v _ h').mono ?_
  rintro e w1 ⟨rfl, rd1, hb1⟩
  have D1 : Hid (Dz (w.heap.size + 1 + 1) 0 w w1) := dz_open rd1 hb1
  rw [show ((w.alloc (.cells Tryd.zeroCells61 61)).alloc (.cells #[.int .i64 0, .int .i64 0, .int .i64 0] 24)).heap.size = w.heap.size + 1 + 1 from by simp]
  clear rd1 hb1 h h'
  go_wp2_with fail
  refine (whole_any (w.heap.size + 1 + 1) 0 w1 D1.out.rd (by omega)).mono ?_
  rintro e w2 ⟨x, rfl, x0, x1, rd2, mv2⟩
  have HX : Hid (-32768 ≤ x ∧ x ≤ 32767) := ⟨x0, x1⟩
  clear x0 x1
  have D2 : Hid (Dz (w.heap.size + 1 + 1) 2 w w2) := D1.out.call rd2 mv2
  clear rd2 mv2 D1
  go_wp2_with fail
  refine (asks_any (w.heap.size + 1 + 1) 2 w2 D2.out.rd (by omega)).mono ?_
  rintro e w3 ⟨k, n, p, rfl, rd3, mv3⟩
  have D3 : Hid (Dz (w.heap.size + 1 + 1) 14 w w3) := D2.out.call rd3 mv3
  clear rd3 mv3 D2
  go_wp2_with fail
  have hz3 := D3.out.rd.size
  have A3 := ArgAt.alloc (.int .i64 k) (.int .i64 n) (.int .i64 p) w3 24
  have D4 : Hid (Dz (w.heap.size + 1 + 1) 14 w (w3.alloc (.cells #[.int .i64 k, .int .i64 n, .int .i64 p] 24))) := D3.out.alloc _
  clear D3
  generalize (w3.alloc (.cells #[.int .i64 k, .int .i64 n, .int .i64 p] 24)) = w4 at A3 D4 ⊢
  generalize w3.heap.size = q at A3 hz3 ⊢
  refine (pick_any (w.heap.size + 1 + 1) 14 2 w4 D4.out.rd (by omega) (by omega)).mono ?_
  rintro e w5 ⟨y, rfl, -, -, -, rd5, mv5⟩
  have A5 := A3.moved mv5 (by omega)
  have D5 : Hid (Dz (w.heap.size + 1 + 1) 15 w w5) := D4.out.call rd5 mv5
  clear rd5 mv5 D4 A3
  cases hy : y == 0 with
  | true =>
    go_wp2_with fail
    refine (arg_any (w.heap.size + 1 + 1) 15 _ w5 D5.out.rd (by omega)).mono ?_
    rintro e w7 ⟨k', n', p', rfl, rd7, mv7⟩
    have A7 := A5.moved mv7 (by omega)
    have D7 : Hid (Dz (w.heap.size + 1 + 1) 19 w w7) := D5.out.call rd7 mv7
    clear rd7 mv7 D5 A5
    have L7 := A7.store (x' := .int .i64 k') (y' := .int .i64 n') (z' := .int .i64 p') rfl rfl rfl
    have A8 := A7.stored (.int .i64 k') (.int .i64 n') (.int .i64 p')
    have D8 : Hid (Dz (w.heap.size + 1 + 1) 19 w (w7.setCells q 0 [.int .i64 k', .int .i64 n', .int .i64 p'])) := D7.out.put hz3 _ _ _
    clear A7 D7
    go_upto_region 6 with (refine list_store (t := 24) (x := .pointer (some ⟨q, 0, none⟩)) (u := .agg #[.int .i64 k', .int .i64 n', .int .i64 p']) rfl rfl rfl rfl L7 ?_)
    simp only [Act.put]
    clear L7
    generalize w7.setCells q 0 [.int .i64 k', .int .i64 n', .int .i64 p'] = w8 at A8 D8 ⊢
    go_wp2_with fail
    have A2 := A8.drew
    have D3 : Hid (Dz (w.heap.size + 1 + 1) 19 w w8.drew) := D8.out.drew
    clear D8 A8
    refine wp_region_held (S := ArgAt q (.int .i64 k') (.int .i64 n') (.int .i64 p')) (by kernel_rfl) ?_
    refine held_any (fuel := 6) (i := 0) (v := .pointer (some ⟨w.heap.size + 1 + 1, 0, none⟩)) rfl (by kernel_rfl) (by kernel_rfl) (by kernel_rfl) rfl (fun _ _ _ h => h) (fun _ _ => rfl) A2 ?_
    go_simp
    refine held_load (fuel := 5) (i := 2) (t := 24) (v := .agg #[.int .i64 k', .int .i64 n', .int .i64 p']) rfl rfl rfl (by kernel_rfl) (by kernel_rfl) (by kernel_rfl) rfl (fun _ _ _ h => h) (fun w' hw' => hw'.load) A2 ?_
    go_simp
    refine held_any (fuel := 4) (i := 3) (v := .int .i16 x) rfl (by kernel_rfl) (by kernel_rfl) (by kernel_rfl) rfl (fun _ _ _ h => h) (fun _ _ => rfl) A2 ?_
    go_simp
    refine wpAnyH_ready (rs := [1]) (by kernel_rfl) (by simp) ?_
    refine AllReadyH.cons rfl (fun K hK => ?_) AllReadyH.nil
    go_simp
    refine (draw_mem (w.heap.size + 1 + 1) 19 _ D3.out.rd (by omega)).mono ?_
    rintro e w13 ⟨m, hm, rfl, rd3, mv3⟩
    have A13 := A2.moved mv3 (by omega)
    have D14 : Hid (Dz (w.heap.size + 1 + 1) (19 + 200) w w13) := D3.out.call rd3 mv3
    clear rd3 mv3 D3 A2
    refine hK.out _ _ A13 (fun _ => ?_)
    clear hK K
    go_simp
    refine wpAnyH_ready (rs := [4]) (by kernel_rfl) (by simp) ?_
    refine AllReadyH.cons rfl (fun K hK => ?_) AllReadyH.nil
    rw [if_pos (by rfl)]
    have A4 := A13.other (c := w.heap.size) (o := 0) (vs := m.row.toList) (by omega)
    have M4 := D14.out.m.stored m
    have G4 := D14.out.g.other (c := w.heap.size) (o := 0) (vs := m.row.toList) (by omega)
    have B4 := setCells_below m.row.toList w.heap.size 0 D14.out.b (Nat.le_refl _)
    refine op_store rfl (store_mem m D14.out.m) ?_
    refine hK.out _ _ A4 (fun _ => ?_)
    clear hK K
    go_simp
    generalize w13.setCells w.heap.size 0 m.row.toList = w14 at A4 M4 G4 B4 ⊢
    have L5 := G4.store (x' := .int .i64 k') (y' := .int .i64 n') (z' := .int .i64 p') rfl rfl rfl
    refine wpAnyH_ready (rs := [5]) (by kernel_rfl) (by simp) ?_
    refine AllReadyH.cons rfl (fun K hK => ?_) AllReadyH.nil
    rw [if_pos (by rfl)]
    have A5 := A4.other (c := w.heap.size + 1) (o := 0) (vs := [.int .i64 k', .int .i64 n', .int .i64 p']) (by omega)
    have M5 := M4.other (c := w.heap.size + 1) (o := 0) (vs := [.int .i64 k', .int .i64 n', .int .i64 p']) (by omega)
    have G5 := G4.stored (.int .i64 k') (.int .i64 n') (.int .i64 p')
    have B5 := setCells_below [.int .i64 k', .int .i64 n', .int .i64 p'] (w.heap.size + 1) 0 B4 (by omega)
    refine op_store rfl L5 ?_
    refine hK.out _ _ A5 (fun _ => ?_)
    clear hK K L5 M4 G4 B4 A4
    go_simp
    generalize w14.setCells (w.heap.size + 1) 0 [.int .i64 k', .int .i64 n', .int .i64 p'] = w15 at A5 M5 G5 B5 ⊢
    refine wpAnyH_ready (rs := [6]) (by kernel_rfl) (by simp) ?_
    refine AllReadyH.cons rfl (fun K hK => ?_) AllReadyH.nil
    go_simp
    refine hK.out _ _ A5 (fun _ => ?_)
    clear hK K
    go_simp
    refine wpAnyH_done (by kernel_rfl) ?_ _
    go_wp2_with fail
    exact ret_three (c := 2) (c' := 3) (c'' := 4) rfl rfl rfl rfl rfl M5 G5 ⟨m, k', n', p', x, hm, HX.out, rfl, B5⟩
  | false =>
    go_wp2_with fail
    have A2 := A5.drew
    have D3 : Hid (Dz (w.heap.size + 1 + 1) 15 w w5.drew) := D5.out.drew
    clear D5 A5
    refine wp_region_held (S := ArgAt q (.int .i64 k) (.int .i64 n) (.int .i64 p)) (by kernel_rfl) ?_
    refine held_any (fuel := 6) (i := 0) (v := .pointer (some ⟨w.heap.size + 1 + 1, 0, none⟩)) rfl (by kernel_rfl) (by kernel_rfl) (by kernel_rfl) rfl (fun _ _ _ h => h) (fun _ _ => rfl) A2 ?_
    go_simp
    refine held_load (fuel := 5) (i := 2) (t := 24) (v := .agg #[.int .i64 k, .int .i64 n, .int .i64 p]) rfl rfl rfl (by kernel_rfl) (by kernel_rfl) (by kernel_rfl) rfl (fun _ _ _ h => h) (fun w' hw' => hw'.load) A2 ?_
    go_simp
    refine held_any (fuel := 4) (i := 3) (v := .int .i16 x) rfl (by kernel_rfl) (by kernel_rfl) (by kernel_rfl) rfl (fun _ _ _ h => h) (fun _ _ => rfl) A2 ?_
    go_simp
    refine wpAnyH_ready (rs := [1]) (by kernel_rfl) (by simp) ?_
    refine AllReadyH.cons rfl (fun K hK => ?_) AllReadyH.nil
    go_simp
    refine (draw_mem (w.heap.size + 1 + 1) 15 _ D3.out.rd (by omega)).mono ?_
    rintro e w13 ⟨m, hm, rfl, rd3, mv3⟩
    have A13 := A2.moved mv3 (by omega)
    have D14 : Hid (Dz (w.heap.size + 1 + 1) (15 + 200) w w13) := D3.out.call rd3 mv3
    clear rd3 mv3 D3 A2
    refine hK.out _ _ A13 (fun _ => ?_)
    clear hK K
    go_simp
    refine wpAnyH_ready (rs := [4]) (by kernel_rfl) (by simp) ?_
    refine AllReadyH.cons rfl (fun K hK => ?_) AllReadyH.nil
    rw [if_pos (by rfl)]
    have A4 := A13.other (c := w.heap.size) (o := 0) (vs := m.row.toList) (by omega)
    have M4 := D14.out.m.stored m
    have G4 := D14.out.g.other (c := w.heap.size) (o := 0) (vs := m.row.toList) (by omega)
    have B4 := setCells_below m.row.toList w.heap.size 0 D14.out.b (Nat.le_refl _)
    refine op_store rfl (store_mem m D14.out.m) ?_
    refine hK.out _ _ A4 (fun _ => ?_)
    clear hK K
    go_simp
    generalize w13.setCells w.heap.size 0 m.row.toList = w14 at A4 M4 G4 B4 ⊢
    have L5 := G4.store (x' := .int .i64 k) (y' := .int .i64 n) (z' := .int .i64 p) rfl rfl rfl
    refine wpAnyH_ready (rs := [5]) (by kernel_rfl) (by simp) ?_
    refine AllReadyH.cons rfl (fun K hK => ?_) AllReadyH.nil
    rw [if_pos (by rfl)]
    have A5 := A4.other (c := w.heap.size + 1) (o := 0) (vs := [.int .i64 k, .int .i64 n, .int .i64 p]) (by omega)
    have M5 := M4.other (c := w.heap.size + 1) (o := 0) (vs := [.int .i64 k, .int .i64 n, .int .i64 p]) (by omega)
    have G5 := G4.stored (.int .i64 k) (.int .i64 n) (.int .i64 p)
    have B5 := setCells_below [.int .i64 k, .int .i64 n, .int .i64 p] (w.heap.size + 1) 0 B4 (by omega)
    refine op_store rfl L5 ?_
    refine hK.out _ _ A5 (fun _ => ?_)
    clear hK K L5 M4 G4 B4 A4
    go_simp
    generalize w14.setCells (w.heap.size + 1) 0 [.int .i64 k, .int .i64 n, .int .i64 p] = w15 at A5 M5 G5 B5 ⊢
    refine wpAnyH_ready (rs := [6]) (by kernel_rfl) (by simp) ?_
    refine AllReadyH.cons rfl (fun K hK => ?_) AllReadyH.nil
    go_simp
    refine hK.out _ _ A5 (fun _ => ?_)
    clear hK K
    go_simp
    refine wpAnyH_done (by kernel_rfl) ?_ _
    go_wp2_with fail
    exact ret_three (c := 2) (c' := 3) (c'' := 4) rfl rfl rfl rfl rfl M5 G5 ⟨m, k, n, p, x, hm, HX.out, rfl, B5⟩

set_option maxRecDepth 100000 in
set_option maxHeartbeats 2000000 in
theorem draw_putR (v : Value) (w : World) (h : CodeAt v w) :
    Calls Tryd.prog 45 #[v] w fun e w' => ∃ (m : MemV) (k n p : Int) (x : Nat), m.Ok ∧ (x < 18446744073709551616) ∧ e = .returned (.tuple #[.agg m.row, .agg #[.int .i64 k, .int .i64 n, .int .i64 p], .float .f64 x]) ∧ Below w.heap.size w w' := by
  have h' : CodeAt v ((w.alloc (.cells Tryd.zeroCells61 61)).alloc (.cells #[.int .i64 0, .int .i64 0, .int .i64 0] 24)) := (h.below ((Below.refl w.heap.size w).alloc (Nat.le_refl _) _)).below ((Below.refl _ _).alloc (Nat.le_refl _) _)
  go_enter Tryd.func45, Tryd.ntmps45
  go_wp2_with fail
  refine (open_any v _ h').mono ?_
  rintro e w1 ⟨rfl, rd1, hb1⟩
  have D1 : Hid (Dz (w.heap.size + 1 + 1) 0 w w1) := dz_open rd1 hb1
  rw [show ((w.alloc (.cells Tryd.zeroCells61 61)).alloc (.cells #[.int .i64 0, .int .i64 0, .int .i64 0] 24)).heap.size = w.heap.size + 1 + 1 from by simp]
  clear rd1 hb1 h h'
  go_wp2_with fail
  refine (real_all (w.heap.size + 1 + 1) 0 w1 D1.out.rd (by omega)).mono ?_
  rintro e w2 ⟨x, rfl, x0, rd2, mv2⟩
  have HX : Hid (x < 18446744073709551616) := x0
  clear x0
  have D2 : Hid (Dz (w.heap.size + 1 + 1) 12 w w2) := D1.out.call rd2 mv2
  clear rd2 mv2 D1
  go_wp2_with fail
  refine (asks_any (w.heap.size + 1 + 1) 12 w2 D2.out.rd (by omega)).mono ?_
  rintro e w3 ⟨k, n, p, rfl, rd3, mv3⟩
  have D3 : Hid (Dz (w.heap.size + 1 + 1) 24 w w3) := D2.out.call rd3 mv3
  clear rd3 mv3 D2
  go_wp2_with fail
  have hz3 := D3.out.rd.size
  have A3 := ArgAt.alloc (.int .i64 k) (.int .i64 n) (.int .i64 p) w3 24
  have D4 : Hid (Dz (w.heap.size + 1 + 1) 24 w (w3.alloc (.cells #[.int .i64 k, .int .i64 n, .int .i64 p] 24))) := D3.out.alloc _
  clear D3
  generalize (w3.alloc (.cells #[.int .i64 k, .int .i64 n, .int .i64 p] 24)) = w4 at A3 D4 ⊢
  generalize w3.heap.size = q at A3 hz3 ⊢
  refine (pick_any (w.heap.size + 1 + 1) 24 2 w4 D4.out.rd (by omega) (by omega)).mono ?_
  rintro e w5 ⟨y, rfl, -, -, -, rd5, mv5⟩
  have A5 := A3.moved mv5 (by omega)
  have D5 : Hid (Dz (w.heap.size + 1 + 1) 25 w w5) := D4.out.call rd5 mv5
  clear rd5 mv5 D4 A3
  cases hy : y == 0 with
  | true =>
    go_wp2_with fail
    refine (arg_any (w.heap.size + 1 + 1) 25 _ w5 D5.out.rd (by omega)).mono ?_
    rintro e w7 ⟨k', n', p', rfl, rd7, mv7⟩
    have A7 := A5.moved mv7 (by omega)
    have D7 : Hid (Dz (w.heap.size + 1 + 1) 29 w w7) := D5.out.call rd7 mv7
    clear rd7 mv7 D5 A5
    have L7 := A7.store (x' := .int .i64 k') (y' := .int .i64 n') (z' := .int .i64 p') rfl rfl rfl
    have A8 := A7.stored (.int .i64 k') (.int .i64 n') (.int .i64 p')
    have D8 : Hid (Dz (w.heap.size + 1 + 1) 29 w (w7.setCells q 0 [.int .i64 k', .int .i64 n', .int .i64 p'])) := D7.out.put hz3 _ _ _
    clear A7 D7
    go_upto_region 6 with (refine list_store (t := 24) (x := .pointer (some ⟨q, 0, none⟩)) (u := .agg #[.int .i64 k', .int .i64 n', .int .i64 p']) rfl rfl rfl rfl L7 ?_)
    simp only [Act.put]
    clear L7
    generalize w7.setCells q 0 [.int .i64 k', .int .i64 n', .int .i64 p'] = w8 at A8 D8 ⊢
    go_wp2_with fail
    have A2 := A8.drew
    have D3 : Hid (Dz (w.heap.size + 1 + 1) 29 w w8.drew) := D8.out.drew
    clear D8 A8
    refine wp_region_held (S := ArgAt q (.int .i64 k') (.int .i64 n') (.int .i64 p')) (by kernel_rfl) ?_
    refine held_any (fuel := 6) (i := 0) (v := .pointer (some ⟨w.heap.size + 1 + 1, 0, none⟩)) rfl (by kernel_rfl) (by kernel_rfl) (by kernel_rfl) rfl (fun _ _ _ h => h) (fun _ _ => rfl) A2 ?_
    go_simp
    refine held_load (fuel := 5) (i := 2) (t := 24) (v := .agg #[.int .i64 k', .int .i64 n', .int .i64 p']) rfl rfl rfl (by kernel_rfl) (by kernel_rfl) (by kernel_rfl) rfl (fun _ _ _ h => h) (fun w' hw' => hw'.load) A2 ?_
    go_simp
    refine held_any (fuel := 4) (i := 3) (v := .float .f64 x) rfl (by kernel_rfl) (by kernel_rfl) (by kernel_rfl) rfl (fun _ _ _ h => h) (fun _ _ => rfl) A2 ?_
    go_simp
    refine wpAnyH_ready (rs := [1]) (by kernel_rfl) (by simp) ?_
    refine AllReadyH.cons rfl (fun K hK => ?_) AllReadyH.nil
    go_simp
    refine (draw_mem (w.heap.size + 1 + 1) 29 _ D3.out.rd (by omega)).mono ?_
    rintro e w13 ⟨m, hm, rfl, rd3, mv3⟩
    have A13 := A2.moved mv3 (by omega)
    have D14 : Hid (Dz (w.heap.size + 1 + 1) (29 + 200) w w13) := D3.out.call rd3 mv3
    clear rd3 mv3 D3 A2
    refine hK.out _ _ A13 (fun _ => ?_)
    clear hK K
    go_simp
    refine wpAnyH_ready (rs := [4]) (by kernel_rfl) (by simp) ?_
    refine AllReadyH.cons rfl (fun K hK => ?_) AllReadyH.nil
    rw [if_pos (by rfl)]
    have A4 := A13.other (c := w.heap.size) (o := 0) (vs := m.row.toList) (by omega)
    have M4 := D14.out.m.stored m
    have G4 := D14.out.g.other (c := w.heap.size) (o := 0) (vs := m.row.toList) (by omega)
    have B4 := setCells_below m.row.toList w.heap.size 0 D14.out.b (Nat.le_refl _)
    refine op_store rfl (store_mem m D14.out.m) ?_
    refine hK.out _ _ A4 (fun _ => ?_)
    clear hK K
    go_simp
    generalize w13.setCells w.heap.size 0 m.row.toList = w14 at A4 M4 G4 B4 ⊢
    have L5 := G4.store (x' := .int .i64 k') (y' := .int .i64 n') (z' := .int .i64 p') rfl rfl rfl
    refine wpAnyH_ready (rs := [5]) (by kernel_rfl) (by simp) ?_
    refine AllReadyH.cons rfl (fun K hK => ?_) AllReadyH.nil
    rw [if_pos (by rfl)]
    have A5 := A4.other (c := w.heap.size + 1) (o := 0) (vs := [.int .i64 k', .int .i64 n', .int .i64 p']) (by omega)
    have M5 := M4.other (c := w.heap.size + 1) (o := 0) (vs := [.int .i64 k', .int .i64 n', .int .i64 p']) (by omega)
    have G5 := G4.stored (.int .i64 k') (.int .i64 n') (.int .i64 p')
    have B5 := setCells_below [.int .i64 k', .int .i64 n', .int .i64 p'] (w.heap.size + 1) 0 B4 (by omega)
    refine op_store rfl L5 ?_
    refine hK.out _ _ A5 (fun _ => ?_)
    clear hK K L5 M4 G4 B4 A4
    go_simp
    generalize w14.setCells (w.heap.size + 1) 0 [.int .i64 k', .int .i64 n', .int .i64 p'] = w15 at A5 M5 G5 B5 ⊢
    refine wpAnyH_ready (rs := [6]) (by kernel_rfl) (by simp) ?_
    refine AllReadyH.cons rfl (fun K hK => ?_) AllReadyH.nil
    go_simp
    refine hK.out _ _ A5 (fun _ => ?_)
    clear hK K
    go_simp
    refine wpAnyH_done (by kernel_rfl) ?_ _
    go_wp2_with fail
    exact ret_three (c := 2) (c' := 3) (c'' := 4) rfl rfl rfl rfl rfl M5 G5 ⟨m, k', n', p', x, hm, HX.out, rfl, B5⟩
  | false =>
    go_wp2_with fail
    have A2 := A5.drew
    have D3 : Hid (Dz (w.heap.size + 1 + 1) 25 w w5.drew) := D5.out.drew
    clear D5 A5
    refine wp_region_held (S := ArgAt q (.int .i64 k) (.int .i64 n) (.int .i64 p)) (by kernel_rfl) ?_
    refine held_any (fuel := 6) (i := 0) (v := .pointer (some ⟨w.heap.size + 1 + 1, 0, none⟩)) rfl (by kernel_rfl) (by kernel_rfl) (by kernel_rfl) rfl (fun _ _ _ h => h) (fun _ _ => rfl) A2 ?_
    go_simp
    refine held_load (fuel := 5) (i := 2) (t := 24) (v := .agg #[.int .i64 k, .int .i64 n, .int .i64 p]) rfl rfl rfl (by kernel_rfl) (by kernel_rfl) (by kernel_rfl) rfl (fun _ _ _ h => h) (fun w' hw' => hw'.load) A2 ?_
    go_simp
    refine held_any (fuel := 4) (i := 3) (v := .float .f64 x) rfl (by kernel_rfl) (by kernel_rfl) (by kernel_rfl) rfl (fun _ _ _ h => h) (fun _ _ => rfl) A2 ?_
    go_simp
    refine wpAnyH_ready (rs := [1]) (by kernel_rfl) (by simp) ?_
    refine AllReadyH.cons rfl (fun K hK => ?_) AllReadyH.nil
    go_simp
    refine (draw_mem (w.heap.size + 1 + 1) 25 _ D3.out.rd (by omega)).mono ?_
    rintro e w13 ⟨m, hm, rfl, rd3, mv3⟩
    have A13 := A2.moved mv3 (by omega)
    have D14 : Hid (Dz (w.heap.size + 1 + 1) (25 + 200) w w13) := D3.out.call rd3 mv3
    clear rd3 mv3 D3 A2
    refine hK.out _ _ A13 (fun _ => ?_)
    clear hK K
    go_simp
    refine wpAnyH_ready (rs := [4]) (by kernel_rfl) (by simp) ?_
    refine AllReadyH.cons rfl (fun K hK => ?_) AllReadyH.nil
    rw [if_pos (by rfl)]
    have A4 := A13.other (c := w.heap.size) (o := 0) (vs := m.row.toList) (by omega)
    have M4 := D14.out.m.stored m
    have G4 := D14.out.g.other (c := w.heap.size) (o := 0) (vs := m.row.toList) (by omega)
    have B4 := setCells_below m.row.toList w.heap.size 0 D14.out.b (Nat.le_refl _)
    refine op_store rfl (store_mem m D14.out.m) ?_
    refine hK.out _ _ A4 (fun _ => ?_)
    clear hK K
    go_simp
    generalize w13.setCells w.heap.size 0 m.row.toList = w14 at A4 M4 G4 B4 ⊢
    have L5 := G4.store (x' := .int .i64 k) (y' := .int .i64 n) (z' := .int .i64 p) rfl rfl rfl
    refine wpAnyH_ready (rs := [5]) (by kernel_rfl) (by simp) ?_
    refine AllReadyH.cons rfl (fun K hK => ?_) AllReadyH.nil
    rw [if_pos (by rfl)]
    have A5 := A4.other (c := w.heap.size + 1) (o := 0) (vs := [.int .i64 k, .int .i64 n, .int .i64 p]) (by omega)
    have M5 := M4.other (c := w.heap.size + 1) (o := 0) (vs := [.int .i64 k, .int .i64 n, .int .i64 p]) (by omega)
    have G5 := G4.stored (.int .i64 k) (.int .i64 n) (.int .i64 p)
    have B5 := setCells_below [.int .i64 k, .int .i64 n, .int .i64 p] (w.heap.size + 1) 0 B4 (by omega)
    refine op_store rfl L5 ?_
    refine hK.out _ _ A5 (fun _ => ?_)
    clear hK K L5 M4 G4 B4 A4
    go_simp
    generalize w14.setCells (w.heap.size + 1) 0 [.int .i64 k, .int .i64 n, .int .i64 p] = w15 at A5 M5 G5 B5 ⊢
    refine wpAnyH_ready (rs := [6]) (by kernel_rfl) (by simp) ?_
    refine AllReadyH.cons rfl (fun K hK => ?_) AllReadyH.nil
    go_simp
    refine hK.out _ _ A5 (fun _ => ?_)
    clear hK K
    go_simp
    refine wpAnyH_done (by kernel_rfl) ?_ _
    go_wp2_with fail
    exact ret_three (c := 2) (c' := 3) (c'' := 4) rfl rfl rfl rfl rfl M5 G5 ⟨m, k, n, p, x, hm, HX.out, rfl, B5⟩

end Go.Proofs.YtdhoimjkgicneaaDoor
