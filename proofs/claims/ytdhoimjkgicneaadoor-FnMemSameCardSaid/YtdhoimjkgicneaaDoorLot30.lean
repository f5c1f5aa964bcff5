/- Texts of this proof laid together: PutA, DrS, TxtB. -/
import Derived.Test.YtdhoimjkgicneaaDoorLot25
import Derived.Test.YtdhoimjkgicneaaDoorLot26
import Derived.Test.YtdhoimjkgicneaaDoorLot14
import Derived.Test.YtdhoimjkgicneaaDoorLot27
import Derived.Test.YtdhoimjkgicneaaDoorLot29
import Derived.Deep.RegionHeld
import Derived.Deep.CutRange
import Derived.Test.YtdhoimjkgicneaaDoorLot17
import Derived.Test.YtdhoimjkgicneaaDoorLot18
import Derived.Test.YtdhoimjkgicneaaDoorLot9
import Derived.Deep.Cut
import Derived.Test.YtdhoimjkgicneaaDoorLot8
/- The law that a bit that is put changes that bit and nothing else, walked. -/
namespace Go.Proofs.YtdhoimjkgicneaaDoor.PutB
open Go Go.RowKit

theorem same_self (v : MemV) : SameM v v := ⟨rfl, rfl, rfl, rfl, rfl, fun _ _ => rfl, fun _ _ => rfl, fun _ _ => rfl, fun _ _ => rfl, fun _ _ => rfl, fun _ _ => rfl, fun _ _ => same_refl _, rfl, rfl, rfl⟩

theorem same_true {a b : MemV} (ha : a.Ok) (hb : b.Ok) (h : SameM a b) (w : World) : Calls Tryd.prog 41 #[.agg a.row, .agg b.row] w fun e w' => e = .returned (.bool true) ∧ Below w.heap.size w w' :=
  (impl_same a b ha hb w).mono fun _ _ ⟨_, he, hq, hw⟩ => ⟨by rw [he, hq.2 h], hw⟩

theorem quiet_skip {ops : Array Oper} {C : World → Prop} {Q : Act → Prop} {rest : List Oper} {o : Oper} {a : Act} (hg : Region.wanted o (yielded ops a.tmps) = false) (h : wpQuiet Tryd.prog ops C Q rest (a.put o.dst undef)) : wpQuiet Tryd.prog ops C Q (o :: rest) a := by
  rw [wpQuiet, if_neg (by rw [hg]; exact Bool.false_ne_true)]
  exact h

theorem put_ok {v : MemV} {k : Int} (n : Int) (b : Bool) (hv : v.Ok) (h : 2 ≤ k ∧ k ≤ 5) : (putV v k n b).Ok := by
  rcases four h with rfl | rfl | rfl | rfl
  · have hl : (atZ 2 n).toNat < 32 := by show (n % 32).toNat < 32; omega
    exact ⟨hv.x, turn_small (s := 32) hv.y hl b, hv.m, hv.s, hv.e, hv.tC, hv.cC, hv.d1, hv.d2, hv.r, hv.time⟩
  · have hl : (atZ 3 n).toNat < 64 := by show (n % 64).toNat < 64; omega
    exact ⟨hv.x, hv.y, turn_small (s := 64) hv.m hl b, hv.s, hv.e, hv.tC, hv.cC, hv.d1, hv.d2, hv.r, hv.time⟩
  · have hl : (atZ 4 n).toNat < 16 := by show (n % 16).toNat < 16; omega
    exact ⟨hv.x, hv.y, hv.m, turn_small (s := 16) hv.s hl b, hv.e, hv.tC, hv.cC, hv.d1, hv.d2, hv.r, hv.time⟩
  · have hl : (atZ 5 n).toNat < 32 := by show (n % 32).toNat < 32; omega
    exact ⟨hv.x, hv.y, hv.m, hv.s, turn_small (s := 32) hv.e hl b, hv.tC, hv.cC, hv.d1, hv.d2, hv.r, hv.time⟩

/-- What is there behind the put: the memory, the operand, and the memory that was put. -/
structure Put5 (m r : MemV) (k n p : Int) (q q2 : Nat) (w wr : World) : Prop where
  M : MemAt q m wr
  P : MemAt q2 r wr
  G : ArgAt (q + 1) (.int .i64 k) (.int .i64 n) (.int .i64 p) wr
  b : Below w.heap.size w wr

theorem box_of {m : MemV} {k n p : Int} {q : Nat} {w w4 : World} (r : MemV) (hb : Below w.heap.size w w4) (M : MemAt q m w4) (G : ArgAt (q + 1) (.int .i64 k) (.int .i64 n) (.int .i64 p) w4) :
    MemAt w4.heap.size mem0 (w4.alloc (.cells Tryd.zeroCells61 61)) ∧
    (Instr.storeAt 61 (.pointer (some ⟨w4.heap.size, 0, none⟩)) (.agg r.row)).run Tryd.prog (w4.alloc (.cells Tryd.zeroCells61 61)) = .ok () ((w4.alloc (.cells Tryd.zeroCells61 61)).setCells w4.heap.size 0 r.row.toList) ∧
    Put5 m r k n p q w4.heap.size w ((w4.alloc (.cells Tryd.zeroCells61 61)).setCells w4.heap.size 0 r.row.toList) := by
  rw [zero_row]
  have h1 : Below w4.heap.size w4 (w4.alloc (.cells mem0.row 61)) := (Below.refl _ _).alloc (Nat.le_refl _) _
  have Z := MemAt.alloc mem0 w4 61
  have hz := M.z
  have gz := G.lt
  have hs := hb.size
  exact ⟨Z, store_mem r Z, (M.below h1 hz).other (by omega), Z.stored r, (G.below h1 gz).other (by omega), setCells_below _ _ _ (hb.alloc hs _) hs⟩

set_option maxRecDepth 100000 in
set_option maxHeartbeats 8000000 in
theorem law_short (a0 a1 : Option Addr) (l0 c0 l1 c1 : Nat) (w : World) (T : KTab w) (h0 : l0 ≤ 1048576) (h1 : l1 ≤ 1048576) (C0 : CodeAt (.slice a0 l0 c0) w) (C1 : CodeAt (.slice a1 l1 c1) w) :
    Calls Tryd.prog 8 #[.slice a0 l0 c0, .slice a1 l1 c1] w fun e w' => e = .returned (.bool true) ∧ Below w.heap.size w w' := by
  go_enter Tryd.func8, Tryd.ntmps8
  go_wp2_with fail
  refine (draw_put _ w C0).mono ?_
  rintro e w1 ⟨m, k, n, p, b, hm, rfl, hb⟩
  obtain ⟨Z, Y, D⟩ := drew_of (m := m) (k := k) (n := n) (p := p) hb 61 24
  have L1 := store_mem m Z
  have L2 := Y.store (x' := .int .i64 k) (y' := .int .i64 n) (z' := .int .i64 p) rfl rfl rfl
  have C1' := C1.below hb
  clear Z Y hb C0
  generalize ((((w1.alloc (.cells Tryd.zeroCells61 61)).alloc (.cells #[.int .i64 0, .int .i64 0, .int .i64 0] 24)).setCells w1.heap.size 0 m.row.toList).setCells (w1.heap.size + 1) 0 [.int .i64 k, .int .i64 n, .int .i64 p]) = w2 at D L2
  go_upto_region 4 with (refine list_store (t := 61) (x := .pointer (some ⟨w1.heap.size, 0, none⟩)) (u := .agg m.row) rfl rfl rfl rfl L1 ?_; refine list_store (t := 24) (x := .pointer (some ⟨w1.heap.size + 1, 0, none⟩)) (u := .agg #[.int .i64 k, .int .i64 n, .int .i64 p]) rfl rfl rfl rfl L2 ?_; simp only [Act.put]; clear L1 L2)
  generalize w1.heap.size = q at D ⊢
  obtain ⟨M, G, BW⟩ := D
  have g0 := G.c0
  have TT : ∀ w', Below w2.heap.size w2 w' → KTab w' := fun w' hw' => T.below (BW.trans (hw'.mono BW.size)) (Nat.le_refl _)
  obtain ⟨was, hwas⟩ : ∃ mb, mb = mbit m k n := ⟨_, rfl⟩
  have CW : ∀ w, KTab w → Calls Tryd.prog 39 #[.agg m.row, .agg #[.int .i64 k, .int .i64 n, .int .i64 p]] w fun e w' => e = .returned (.bool was) ∧ Below w.heap.size w w' := fun w T => hwas ▸ impl_membit m k n p w hm T
  have Hwas : Hid (was = mbit m k n) := hwas
  clear hwas
  obtain ⟨r, hr⟩ : ∃ r, r = putV m k n b := ⟨_, rfl⟩
  have CP : ∀ w, KTab w → Calls Tryd.prog 40 #[.agg m.row, .agg #[.int .i64 k, .int .i64 n, .int .i64 p], .bool b] w fun e w' => e = .returned (.agg r.row) ∧ Below w.heap.size w w' := fun w T => hr ▸ impl_memput m k n p b w hm T
  have Hr : Hid (r = putV m k n b) := hr
  clear hr
  go_upto_region 5 with (refine list_load (t := 61) rfl rfl rfl (load_mem M) ?_; refine list_load (t := 24) rfl rfl rfl G.load ?_)
  refine (CW w2 (TT w2 (Below.refl _ _))).mono ?_
  rintro e w3 ⟨rfl, hw3⟩
  have M3 := M.below hw3 M.z
  have G3 := G.below hw3 G.lt
  have BW3 := BW.trans (hw3.mono BW.size)
  have T3 : KTab w3 := T.below BW3 (Nat.le_refl _)
  clear M G BW TT hw3 g0 CW C1'
  go_upto_region 5 with fail
  go_upto_region 6 with (refine list_load (t := 61) rfl rfl rfl (load_mem M3) ?_; refine list_load (t := 24) rfl rfl rfl G3.load ?_)
  refine (CP w3 T3).mono ?_
  rintro e w4 ⟨rfl, hw4⟩
  have M4 := M3.below hw4 M3.z
  have G4 := G3.below hw4 G3.lt
  have BW4 := BW3.trans (hw4.mono BW3.size)
  clear M3 G3 BW3 T3 CP
  obtain ⟨Z, S, D5⟩ := box_of (m := m) (k := k) (n := n) (p := p) r BW4 M4 G4
  generalize ((w4.alloc (.cells Tryd.zeroCells61 61)).setCells w4.heap.size 0 r.row.toList) = w5 at D5 S
  clear hw4 M4 G4 BW4
  go_upto_region 6 with (refine list_store (t := 61) (x := .pointer (some ⟨w4.heap.size, 0, none⟩)) (u := .agg r.row) rfl rfl rfl rfl S ?_; simp only [Act.put]; clear S Z)
  generalize w4.heap.size = q2 at D5 ⊢
  obtain ⟨M5, P5, G5, BW5⟩ := D5
  by_cases hk : 2 ≤ k ∧ k ≤ 5
  · obtain ⟨hk1, hk2⟩ := hk
    have e1 : decide (k < 2) = false := by simp; omega
    have e2 : decide (5 < k) = false := by simp; omega
    have g0 := G5.c0
    go_upto_region 8 with fail
    go_wp2_with fail
    refine (draw_bit _ w5 (C1.below BW5)).mono ?_
    rintro e w6 ⟨m', k', n', p', hm', rfl, hb6⟩
    obtain ⟨Z, Y, D⟩ := drew_of (m := m') (k := k') (n := n') (p := p') hb6 61 24
    have L1 := store_mem m' Z
    have L2 := Y.store (x' := .int .i64 k') (y' := .int .i64 n') (z' := .int .i64 p') rfl rfl rfl
    clear Z Y hb6
    generalize ((((w6.alloc (.cells Tryd.zeroCells61 61)).alloc (.cells #[.int .i64 0, .int .i64 0, .int .i64 0] 24)).setCells w6.heap.size 0 m'.row.toList).setCells (w6.heap.size + 1) 0 [.int .i64 k', .int .i64 n', .int .i64 p']) = w7 at D L2
    go_upto_region 9 with (refine list_store (t := 61) (x := .pointer (some ⟨w6.heap.size, 0, none⟩)) (u := .agg m'.row) rfl rfl rfl rfl L1 ?_; refine list_store (t := 24) (x := .pointer (some ⟨w6.heap.size + 1, 0, none⟩)) (u := .agg #[.int .i64 k', .int .i64 n', .int .i64 p']) rfl rfl rfl rfl L2 ?_; simp only [Act.put]; clear L1 L2)
    generalize w6.heap.size = q6 at D ⊢
    obtain ⟨M7', O7, BW7'⟩ := D
    have M7 := M5.below BW7' M5.z
    have P7 := P5.below BW7' P5.z
    have G7 := G5.below BW7' G5.lt
    have BW7 := BW5.trans (BW7'.mono BW5.size)
    have T7 : KTab w7 := T.below BW7 (Nat.le_refl _)
    clear M7' BW7' M5 P5 G5 BW5 g0
    obtain ⟨nb, hnb⟩ : ∃ nb, nb = mbit m k' n' := ⟨_, rfl⟩
    have CN : ∀ w, KTab w → Calls Tryd.prog 39 #[.agg m.row, .agg #[.int .i64 k', .int .i64 n', .int .i64 p']] w fun e w' => e = .returned (.bool nb) ∧ Below w.heap.size w w' := fun w T => hnb ▸ impl_membit m k' n' p' w hm T
    have Hnb : Hid (nb = mbit m k' n') := hnb
    clear hnb
    go_upto_region 10 with (refine list_load (t := 61) rfl rfl rfl (load_mem M7) ?_; refine list_load (t := 24) rfl rfl rfl O7.load ?_)
    refine (CN w7 T7).mono ?_
    rintro e w8 ⟨rfl, hw8⟩
    have M := M7.below hw8 M7.z
    have P := P7.below hw8 P7.z
    have G := G7.below hw8 G7.lt
    have O := O7.below hw8 O7.lt
    have BW := BW7.trans (hw8.mono BW7.size)
    clear M7 P7 G7 O7 BW7 T7 hw8 CN
    go_upto_region 10 with fail
    have TT : ∀ w', Below w8.heap.size w8 w' → KTab w' := fun w' hw' => T.below (BW.trans (hw'.mono BW.size)) (Nat.le_refl _)
    obtain ⟨wz, hwz⟩ : ∃ wz, wz = wholeZ m k' n' := ⟨_, rfl⟩
    have hrm : r.Ok := by rw [Hr.out]; exact put_ok n b hm ⟨hk1, hk2⟩
    have W2 : ∀ w, KTab w → Calls Tryd.prog 43 #[.agg m.row, .agg #[.int .i64 k', .int .i64 n', .int .i64 p']] w fun e w' => e = .returned (.int .i16 wz) ∧ Below w.heap.size w w' := fun w T => hwz ▸ impl_memwhole m k' n' p' w hm T
    have hwz2 : wz = wholeZ r k' n' := by rw [hwz, Hr.out, put_whole]
    have W1 : ∀ w, KTab w → Calls Tryd.prog 43 #[.agg r.row, .agg #[.int .i64 k', .int .i64 n', .int .i64 p']] w fun e w' => e = .returned (.int .i16 wz) ∧ Below w.heap.size w w' := fun w T => hwz2 ▸ impl_memwhole r k' n' p' w hrm T
    clear hwz hwz2
    obtain ⟨oa, hoa⟩ : ∃ oa, oa = okB k n p := ⟨_, rfl⟩
    obtain ⟨oo, hoo⟩ : ∃ oo, oo = okB k' n' p' := ⟨_, rfl⟩
    have CA : ∀ w, Calls Tryd.prog 36 #[.agg #[.int .i64 k, .int .i64 n, .int .i64 p]] w fun e w' => e = .returned (.bool oa) ∧ Below w.heap.size w w' := fun w => hoa ▸ spec_ok k n p w
    have CO : ∀ w, Calls Tryd.prog 36 #[.agg #[.int .i64 k', .int .i64 n', .int .i64 p']] w fun e w' => e = .returned (.bool oo) ∧ Below w.heap.size w w' := fun w => hoo ▸ spec_ok k' n' p' w
    have CX : ∀ w, KTab w → Calls Tryd.prog 39 #[.agg r.row, .agg #[.int .i64 k, .int .i64 n, .int .i64 p]] w fun e w' => e = .returned (.bool b) ∧ Below w.heap.size w w' := by
      have h1 : mbit r k n = b := by rw [Hr.out]; exact put_bit m n b ⟨hk1, hk2⟩
      exact fun w T => h1 ▸ impl_membit r k n p w hrm T
    have CY : ∀ w, KTab w → Calls Tryd.prog 40 #[.agg r.row, .agg #[.int .i64 k, .int .i64 n, .int .i64 p], .bool was] w fun e w' => e = .returned (.agg m.row) ∧ Below w.heap.size w w' := by
      have h1 : putV r k n was = m := by rw [Hr.out, Hwas.out]; exact put_back m n b ⟨hk1, hk2⟩
      intro w T
      have h2 := impl_memput r k n p was w hrm T
      rw [h1] at h2
      exact h2
    have CZ : ∀ w, Calls Tryd.prog 41 #[.agg m.row, .agg m.row] w fun e w' => e = .returned (.bool true) ∧ Below w.heap.size w w' := fun w => same_true hm hm (same_self m) w
    cases oa with
    | false =>
      clear hoa hoo
      refine wp_region_belowM (by kernel_rfl) (by kernel_rfl) ?_
      refine quiet_load (t := 24) (v := (.agg #[.int .i64 k, .int .i64 n, .int .i64 p])) rfl rfl rfl (fun w' hw' => (G.below hw' G.lt).load) ?_
      go_simp
      refine wpQuiet_step (fun K hK => ?_)
      go_simp
      refine ⟨(.bool false), fun w' hw' => (CA w').mono fun e w'' ⟨he, hb⟩ => ⟨he, hw'.trans (hb.mono hw'.size)⟩, hK _ ?_⟩
      clear hK K
      quiet_step (exact fun _ => rfl)
      refine quiet_skip rfl ?_
      go_simp
      refine quiet_skip rfl ?_
      go_simp
      quiet_step (exact fun _ => rfl)
      quiet_step (exact fun _ => rfl)
      refine quiet_skip rfl ?_
      go_simp
      refine quiet_skip rfl ?_
      go_simp
      refine quiet_skip rfl ?_
      go_simp
      quiet_step (exact fun _ => rfl)
      quiet_step (exact fun _ => rfl)
      refine quiet_skip rfl ?_
      go_simp
      refine quiet_skip rfl ?_
      go_simp
      refine quiet_skip rfl ?_
      go_simp
      refine quiet_skip rfl ?_
      go_simp
      refine quiet_skip rfl ?_
      go_simp
      quiet_step (exact fun _ => rfl)
      quiet_step (exact fun _ => rfl)
      refine quiet_load (t := 61) (v := .agg r.row) rfl rfl rfl (fun w' hw' => load_mem (P.below hw' P.z)) ?_
      go_simp
      refine quiet_load (t := 24) (v := (.agg #[.int .i64 k', .int .i64 n', .int .i64 p'])) rfl rfl rfl (fun w' hw' => (O.below hw' O.lt).load) ?_
      go_simp
      refine wpQuiet_step (fun K hK => ?_)
      go_simp
      refine ⟨(.int .i16 wz), fun w' hw' => (W1 w' (TT w' hw')).mono fun e w'' ⟨he, hb⟩ => ⟨he, hw'.trans (hb.mono hw'.size)⟩, hK _ ?_⟩
      clear hK K
      refine quiet_load (t := 61) (v := .agg m.row) rfl rfl rfl (fun w' hw' => load_mem (M.below hw' M.z)) ?_
      go_simp
      refine quiet_load (t := 24) (v := (.agg #[.int .i64 k', .int .i64 n', .int .i64 p'])) rfl rfl rfl (fun w' hw' => (O.below hw' O.lt).load) ?_
      go_simp
      refine wpQuiet_step (fun K hK => ?_)
      go_simp
      refine ⟨(.int .i16 wz), fun w' hw' => (W2 w' (TT w' hw')).mono fun e w'' ⟨he, hb⟩ => ⟨he, hw'.trans (hb.mono hw'.size)⟩, hK _ ?_⟩
      clear hK K
      refine wpQuiet_step (fun K hK => ?_)
      go_simp
      refine ⟨.bool false, fun _ _ => by simp, hK _ ?_⟩
      clear hK K
      quiet_step (exact fun _ => rfl)
      refine wpQuiet_nil ?_
      intro w9 hw9
      have M9 := M.below hw9 M.z
      have P9 := P.below hw9 P.z
      have G9 := G.below hw9 G.lt
      have BW9 := BW.trans (hw9.mono BW.size)
      clear M P G O BW TT CA CO W1 W2 hw9
      go_upto_region 12 with fail
      have TT : ∀ w', Below w9.heap.size w9 w' → KTab w' := fun w' hw' => T.below (BW9.trans (hw'.mono BW9.size)) (Nat.le_refl _)
      refine wp_region_belowM (by kernel_rfl) (by kernel_rfl) ?_
      refine quiet_load (t := 61) (v := .agg r.row) rfl rfl rfl (fun w' hw' => load_mem (P9.below hw' P9.z)) ?_
      go_simp
      refine quiet_load (t := 24) (v := (.agg #[.int .i64 k, .int .i64 n, .int .i64 p])) rfl rfl rfl (fun w' hw' => (G9.below hw' G9.lt).load) ?_
      go_simp
      refine wpQuiet_step (fun K hK => ?_)
      go_simp
      refine ⟨(.bool b), fun w' hw' => (CX w' (TT w' hw')).mono fun e w'' ⟨he, hb⟩ => ⟨he, hw'.trans (hb.mono hw'.size)⟩, hK _ ?_⟩
      clear hK K
      quiet_step (exact fun _ => rfl)
      refine wpQuiet_step (fun K hK => ?_)
      go_simp
      refine ⟨.bool true, fun _ _ => by simp, hK _ ?_⟩
      clear hK K
      quiet_step (exact fun _ => rfl)
      refine quiet_load (t := 61) (v := .agg r.row) rfl rfl rfl (fun w' hw' => load_mem (P9.below hw' P9.z)) ?_
      go_simp
      refine quiet_load (t := 24) (v := (.agg #[.int .i64 k, .int .i64 n, .int .i64 p])) rfl rfl rfl (fun w' hw' => (G9.below hw' G9.lt).load) ?_
      go_simp
      quiet_step (exact fun _ => rfl)
      refine wpQuiet_step (fun K hK => ?_)
      go_simp
      refine ⟨(.agg m.row), fun w' hw' => (CY w' (TT w' hw')).mono fun e w'' ⟨he, hb⟩ => ⟨he, hw'.trans (hb.mono hw'.size)⟩, hK _ ?_⟩
      clear hK K
      refine quiet_load (t := 61) (v := .agg m.row) rfl rfl rfl (fun w' hw' => load_mem (M9.below hw' M9.z)) ?_
      go_simp
      refine wpQuiet_step (fun K hK => ?_)
      go_simp
      refine ⟨(.bool true), fun w' hw' => (CZ w').mono fun e w'' ⟨he, hb⟩ => ⟨he, hw'.trans (hb.mono hw'.size)⟩, hK _ ?_⟩
      clear hK K
      quiet_step (exact fun _ => rfl)
      quiet_step (exact fun _ => rfl)
      refine wpQuiet_nil ?_
      intro w10 hw10
      have BW10 := BW9.trans (hw10.mono BW9.size)
      clear hw10 TT M9 P9 G9 BW9 CX CY CZ
      go_wp2_with fail
      go_ret
      exact ⟨rfl, BW10⟩
    | true =>
      cases oo with
      | false =>
        clear hoa hoo
        refine wp_region_belowM (by kernel_rfl) (by kernel_rfl) ?_
        refine quiet_load (t := 24) (v := (.agg #[.int .i64 k, .int .i64 n, .int .i64 p])) rfl rfl rfl (fun w' hw' => (G.below hw' G.lt).load) ?_
        go_simp
        refine wpQuiet_step (fun K hK => ?_)
        go_simp
        refine ⟨(.bool true), fun w' hw' => (CA w').mono fun e w'' ⟨he, hb⟩ => ⟨he, hw'.trans (hb.mono hw'.size)⟩, hK _ ?_⟩
        clear hK K
        quiet_step (exact fun _ => rfl)
        refine quiet_load (t := 24) (v := (.agg #[.int .i64 k', .int .i64 n', .int .i64 p'])) rfl rfl rfl (fun w' hw' => (O.below hw' O.lt).load) ?_
        go_simp
        refine wpQuiet_step (fun K hK => ?_)
        go_simp
        refine ⟨(.bool false), fun w' hw' => (CO w').mono fun e w'' ⟨he, hb⟩ => ⟨he, hw'.trans (hb.mono hw'.size)⟩, hK _ ?_⟩
        clear hK K
        quiet_step (exact fun _ => rfl)
        quiet_step (exact fun _ => rfl)
        refine quiet_skip rfl ?_
        go_simp
        refine quiet_skip rfl ?_
        go_simp
        refine quiet_skip rfl ?_
        go_simp
        quiet_step (exact fun _ => rfl)
        quiet_step (exact fun _ => rfl)
        refine quiet_skip rfl ?_
        go_simp
        refine quiet_skip rfl ?_
        go_simp
        refine quiet_skip rfl ?_
        go_simp
        refine quiet_skip rfl ?_
        go_simp
        refine quiet_skip rfl ?_
        go_simp
        quiet_step (exact fun _ => rfl)
        quiet_step (exact fun _ => rfl)
        refine quiet_load (t := 61) (v := .agg r.row) rfl rfl rfl (fun w' hw' => load_mem (P.below hw' P.z)) ?_
        go_simp
        refine quiet_load (t := 24) (v := (.agg #[.int .i64 k', .int .i64 n', .int .i64 p'])) rfl rfl rfl (fun w' hw' => (O.below hw' O.lt).load) ?_
        go_simp
        refine wpQuiet_step (fun K hK => ?_)
        go_simp
        refine ⟨(.int .i16 wz), fun w' hw' => (W1 w' (TT w' hw')).mono fun e w'' ⟨he, hb⟩ => ⟨he, hw'.trans (hb.mono hw'.size)⟩, hK _ ?_⟩
        clear hK K
        refine quiet_load (t := 61) (v := .agg m.row) rfl rfl rfl (fun w' hw' => load_mem (M.below hw' M.z)) ?_
        go_simp
        refine quiet_load (t := 24) (v := (.agg #[.int .i64 k', .int .i64 n', .int .i64 p'])) rfl rfl rfl (fun w' hw' => (O.below hw' O.lt).load) ?_
        go_simp
        refine wpQuiet_step (fun K hK => ?_)
        go_simp
        refine ⟨(.int .i16 wz), fun w' hw' => (W2 w' (TT w' hw')).mono fun e w'' ⟨he, hb⟩ => ⟨he, hw'.trans (hb.mono hw'.size)⟩, hK _ ?_⟩
        clear hK K
        refine wpQuiet_step (fun K hK => ?_)
        go_simp
        refine ⟨.bool false, fun _ _ => by simp, hK _ ?_⟩
        clear hK K
        quiet_step (exact fun _ => rfl)
        refine wpQuiet_nil ?_
        intro w9 hw9
        have M9 := M.below hw9 M.z
        have P9 := P.below hw9 P.z
        have G9 := G.below hw9 G.lt
        have BW9 := BW.trans (hw9.mono BW.size)
        clear M P G O BW TT CA CO W1 W2 hw9
        go_upto_region 12 with fail
        have TT : ∀ w', Below w9.heap.size w9 w' → KTab w' := fun w' hw' => T.below (BW9.trans (hw'.mono BW9.size)) (Nat.le_refl _)
        refine wp_region_belowM (by kernel_rfl) (by kernel_rfl) ?_
        refine quiet_load (t := 61) (v := .agg r.row) rfl rfl rfl (fun w' hw' => load_mem (P9.below hw' P9.z)) ?_
        go_simp
        refine quiet_load (t := 24) (v := (.agg #[.int .i64 k, .int .i64 n, .int .i64 p])) rfl rfl rfl (fun w' hw' => (G9.below hw' G9.lt).load) ?_
        go_simp
        refine wpQuiet_step (fun K hK => ?_)
        go_simp
        refine ⟨(.bool b), fun w' hw' => (CX w' (TT w' hw')).mono fun e w'' ⟨he, hb⟩ => ⟨he, hw'.trans (hb.mono hw'.size)⟩, hK _ ?_⟩
        clear hK K
        quiet_step (exact fun _ => rfl)
        refine wpQuiet_step (fun K hK => ?_)
        go_simp
        refine ⟨.bool true, fun _ _ => by simp, hK _ ?_⟩
        clear hK K
        quiet_step (exact fun _ => rfl)
        refine quiet_load (t := 61) (v := .agg r.row) rfl rfl rfl (fun w' hw' => load_mem (P9.below hw' P9.z)) ?_
        go_simp
        refine quiet_load (t := 24) (v := (.agg #[.int .i64 k, .int .i64 n, .int .i64 p])) rfl rfl rfl (fun w' hw' => (G9.below hw' G9.lt).load) ?_
        go_simp
        quiet_step (exact fun _ => rfl)
        refine wpQuiet_step (fun K hK => ?_)
        go_simp
        refine ⟨(.agg m.row), fun w' hw' => (CY w' (TT w' hw')).mono fun e w'' ⟨he, hb⟩ => ⟨he, hw'.trans (hb.mono hw'.size)⟩, hK _ ?_⟩
        clear hK K
        refine quiet_load (t := 61) (v := .agg m.row) rfl rfl rfl (fun w' hw' => load_mem (M9.below hw' M9.z)) ?_
        go_simp
        refine wpQuiet_step (fun K hK => ?_)
        go_simp
        refine ⟨(.bool true), fun w' hw' => (CZ w').mono fun e w'' ⟨he, hb⟩ => ⟨he, hw'.trans (hb.mono hw'.size)⟩, hK _ ?_⟩
        clear hK K
        quiet_step (exact fun _ => rfl)
        quiet_step (exact fun _ => rfl)
        refine wpQuiet_nil ?_
        intro w10 hw10
        have BW10 := BW9.trans (hw10.mono BW9.size)
        clear hw10 TT M9 P9 G9 BW9 CX CY CZ
        go_wp2_with fail
        go_ret
        exact ⟨rfl, BW10⟩
      | true =>
        cases hq : decide (k' = k ∧ n' = n ∧ p' = p) with
        | true =>
          clear hoa hoo
          refine wp_region_belowM (by kernel_rfl) (by kernel_rfl) ?_
          refine quiet_load (t := 24) (v := (.agg #[.int .i64 k, .int .i64 n, .int .i64 p])) rfl rfl rfl (fun w' hw' => (G.below hw' G.lt).load) ?_
          go_simp
          refine wpQuiet_step (fun K hK => ?_)
          go_simp
          refine ⟨(.bool true), fun w' hw' => (CA w').mono fun e w'' ⟨he, hb⟩ => ⟨he, hw'.trans (hb.mono hw'.size)⟩, hK _ ?_⟩
          clear hK K
          quiet_step (exact fun _ => rfl)
          refine quiet_load (t := 24) (v := (.agg #[.int .i64 k', .int .i64 n', .int .i64 p'])) rfl rfl rfl (fun w' hw' => (O.below hw' O.lt).load) ?_
          go_simp
          refine wpQuiet_step (fun K hK => ?_)
          go_simp
          refine ⟨(.bool true), fun w' hw' => (CO w').mono fun e w'' ⟨he, hb⟩ => ⟨he, hw'.trans (hb.mono hw'.size)⟩, hK _ ?_⟩
          clear hK K
          quiet_step (exact fun _ => rfl)
          quiet_step (exact fun _ => rfl)
          refine quiet_load (t := 24) (v := (.agg #[.int .i64 k', .int .i64 n', .int .i64 p'])) rfl rfl rfl (fun w' hw' => (O.below hw' O.lt).load) ?_
          go_simp
          refine quiet_load (t := 24) (v := (.agg #[.int .i64 k, .int .i64 n, .int .i64 p])) rfl rfl rfl (fun w' hw' => (G.below hw' G.lt).load) ?_
          go_simp
          refine quiet_bin (op := .neq) (t := 24) (u1 := .agg #[.int .i64 k', .int .i64 n', .int .i64 p']) (u2 := .agg #[.int .i64 k, .int .i64 n, .int .i64 p]) (v := .bool false) rfl rfl rfl rfl (fun w' => run_eqGuard_agg w' _ _ _ _ _ _ (by kernel_rfl)) (fun w' => (neq_arg k n p k' n' p' w').trans (by rw [hq]; rfl)) ?_
          go_simp
          quiet_step (exact fun _ => rfl)
          quiet_step (exact fun _ => rfl)
          refine quiet_skip rfl ?_
          go_simp
          refine quiet_skip rfl ?_
          go_simp
          refine quiet_skip rfl ?_
          go_simp
          refine quiet_skip rfl ?_
          go_simp
          refine quiet_skip rfl ?_
          go_simp
          quiet_step (exact fun _ => rfl)
          quiet_step (exact fun _ => rfl)
          refine quiet_load (t := 61) (v := .agg r.row) rfl rfl rfl (fun w' hw' => load_mem (P.below hw' P.z)) ?_
          go_simp
          refine quiet_load (t := 24) (v := (.agg #[.int .i64 k', .int .i64 n', .int .i64 p'])) rfl rfl rfl (fun w' hw' => (O.below hw' O.lt).load) ?_
          go_simp
          refine wpQuiet_step (fun K hK => ?_)
          go_simp
          refine ⟨(.int .i16 wz), fun w' hw' => (W1 w' (TT w' hw')).mono fun e w'' ⟨he, hb⟩ => ⟨he, hw'.trans (hb.mono hw'.size)⟩, hK _ ?_⟩
          clear hK K
          refine quiet_load (t := 61) (v := .agg m.row) rfl rfl rfl (fun w' hw' => load_mem (M.below hw' M.z)) ?_
          go_simp
          refine quiet_load (t := 24) (v := (.agg #[.int .i64 k', .int .i64 n', .int .i64 p'])) rfl rfl rfl (fun w' hw' => (O.below hw' O.lt).load) ?_
          go_simp
          refine wpQuiet_step (fun K hK => ?_)
          go_simp
          refine ⟨(.int .i16 wz), fun w' hw' => (W2 w' (TT w' hw')).mono fun e w'' ⟨he, hb⟩ => ⟨he, hw'.trans (hb.mono hw'.size)⟩, hK _ ?_⟩
          clear hK K
          refine wpQuiet_step (fun K hK => ?_)
          go_simp
          refine ⟨.bool false, fun _ _ => by simp, hK _ ?_⟩
          clear hK K
          quiet_step (exact fun _ => rfl)
          refine wpQuiet_nil ?_
          intro w9 hw9
          have M9 := M.below hw9 M.z
          have P9 := P.below hw9 P.z
          have G9 := G.below hw9 G.lt
          have BW9 := BW.trans (hw9.mono BW.size)
          clear M P G O BW TT CA CO W1 W2 hw9
          go_upto_region 12 with fail
          have TT : ∀ w', Below w9.heap.size w9 w' → KTab w' := fun w' hw' => T.below (BW9.trans (hw'.mono BW9.size)) (Nat.le_refl _)
          refine wp_region_belowM (by kernel_rfl) (by kernel_rfl) ?_
          refine quiet_load (t := 61) (v := .agg r.row) rfl rfl rfl (fun w' hw' => load_mem (P9.below hw' P9.z)) ?_
          go_simp
          refine quiet_load (t := 24) (v := (.agg #[.int .i64 k, .int .i64 n, .int .i64 p])) rfl rfl rfl (fun w' hw' => (G9.below hw' G9.lt).load) ?_
          go_simp
          refine wpQuiet_step (fun K hK => ?_)
          go_simp
          refine ⟨(.bool b), fun w' hw' => (CX w' (TT w' hw')).mono fun e w'' ⟨he, hb⟩ => ⟨he, hw'.trans (hb.mono hw'.size)⟩, hK _ ?_⟩
          clear hK K
          quiet_step (exact fun _ => rfl)
          refine wpQuiet_step (fun K hK => ?_)
          go_simp
          refine ⟨.bool true, fun _ _ => by simp, hK _ ?_⟩
          clear hK K
          quiet_step (exact fun _ => rfl)
          refine quiet_load (t := 61) (v := .agg r.row) rfl rfl rfl (fun w' hw' => load_mem (P9.below hw' P9.z)) ?_
          go_simp
          refine quiet_load (t := 24) (v := (.agg #[.int .i64 k, .int .i64 n, .int .i64 p])) rfl rfl rfl (fun w' hw' => (G9.below hw' G9.lt).load) ?_
          go_simp
          quiet_step (exact fun _ => rfl)
          refine wpQuiet_step (fun K hK => ?_)
          go_simp
          refine ⟨(.agg m.row), fun w' hw' => (CY w' (TT w' hw')).mono fun e w'' ⟨he, hb⟩ => ⟨he, hw'.trans (hb.mono hw'.size)⟩, hK _ ?_⟩
          clear hK K
          refine quiet_load (t := 61) (v := .agg m.row) rfl rfl rfl (fun w' hw' => load_mem (M9.below hw' M9.z)) ?_
          go_simp
          refine wpQuiet_step (fun K hK => ?_)
          go_simp
          refine ⟨(.bool true), fun w' hw' => (CZ w').mono fun e w'' ⟨he, hb⟩ => ⟨he, hw'.trans (hb.mono hw'.size)⟩, hK _ ?_⟩
          clear hK K
          quiet_step (exact fun _ => rfl)
          quiet_step (exact fun _ => rfl)
          refine wpQuiet_nil ?_
          intro w10 hw10
          have BW10 := BW9.trans (hw10.mono BW9.size)
          clear hw10 TT M9 P9 G9 BW9 CX CY CZ
          go_wp2_with fail
          go_ret
          exact ⟨rfl, BW10⟩
        | false =>
          have CB : ∀ w, KTab w → Calls Tryd.prog 39 #[.agg r.row, .agg #[.int .i64 k', .int .i64 n', .int .i64 p']] w fun e w' => e = .returned (.bool nb) ∧ Below w.heap.size w w' := by
            have h1 : nb = mbit r k' n' := by rw [Hnb.out, Hr.out]; exact (put_other m b ⟨hk1, hk2⟩ hoa.symm hoo.symm (by simpa using hq)).symm
            exact fun w T => h1 ▸ impl_membit r k' n' p' w hrm T
          clear hoa hoo
          refine wp_region_belowM (by kernel_rfl) (by kernel_rfl) ?_
          refine quiet_load (t := 24) (v := (.agg #[.int .i64 k, .int .i64 n, .int .i64 p])) rfl rfl rfl (fun w' hw' => (G.below hw' G.lt).load) ?_
          go_simp
          refine wpQuiet_step (fun K hK => ?_)
          go_simp
          refine ⟨(.bool true), fun w' hw' => (CA w').mono fun e w'' ⟨he, hb⟩ => ⟨he, hw'.trans (hb.mono hw'.size)⟩, hK _ ?_⟩
          clear hK K
          quiet_step (exact fun _ => rfl)
          refine quiet_load (t := 24) (v := (.agg #[.int .i64 k', .int .i64 n', .int .i64 p'])) rfl rfl rfl (fun w' hw' => (O.below hw' O.lt).load) ?_
          go_simp
          refine wpQuiet_step (fun K hK => ?_)
          go_simp
          refine ⟨(.bool true), fun w' hw' => (CO w').mono fun e w'' ⟨he, hb⟩ => ⟨he, hw'.trans (hb.mono hw'.size)⟩, hK _ ?_⟩
          clear hK K
          quiet_step (exact fun _ => rfl)
          quiet_step (exact fun _ => rfl)
          refine quiet_load (t := 24) (v := (.agg #[.int .i64 k', .int .i64 n', .int .i64 p'])) rfl rfl rfl (fun w' hw' => (O.below hw' O.lt).load) ?_
          go_simp
          refine quiet_load (t := 24) (v := (.agg #[.int .i64 k, .int .i64 n, .int .i64 p])) rfl rfl rfl (fun w' hw' => (G.below hw' G.lt).load) ?_
          go_simp
          refine quiet_bin (op := .neq) (t := 24) (u1 := .agg #[.int .i64 k', .int .i64 n', .int .i64 p']) (u2 := .agg #[.int .i64 k, .int .i64 n, .int .i64 p]) (v := .bool true) rfl rfl rfl rfl (fun w' => run_eqGuard_agg w' _ _ _ _ _ _ (by kernel_rfl)) (fun w' => (neq_arg k n p k' n' p' w').trans (by rw [hq]; rfl)) ?_
          go_simp
          quiet_step (exact fun _ => rfl)
          quiet_step (exact fun _ => rfl)
          refine quiet_load (t := 61) (v := .agg r.row) rfl rfl rfl (fun w' hw' => load_mem (P.below hw' P.z)) ?_
          go_simp
          refine quiet_load (t := 24) (v := (.agg #[.int .i64 k', .int .i64 n', .int .i64 p'])) rfl rfl rfl (fun w' hw' => (O.below hw' O.lt).load) ?_
          go_simp
          refine wpQuiet_step (fun K hK => ?_)
          go_simp
          refine ⟨(.bool nb), fun w' hw' => (CB w' (TT w' hw')).mono fun e w'' ⟨he, hb⟩ => ⟨he, hw'.trans (hb.mono hw'.size)⟩, hK _ ?_⟩
          clear hK K
          quiet_step (exact fun _ => rfl)
          refine wpQuiet_step (fun K hK => ?_)
          go_simp
          refine ⟨.bool false, fun _ _ => by simp, hK _ ?_⟩
          clear hK K
          quiet_step (exact fun _ => rfl)
          quiet_step (exact fun _ => rfl)
          refine quiet_load (t := 61) (v := .agg r.row) rfl rfl rfl (fun w' hw' => load_mem (P.below hw' P.z)) ?_
          go_simp
          refine quiet_load (t := 24) (v := (.agg #[.int .i64 k', .int .i64 n', .int .i64 p'])) rfl rfl rfl (fun w' hw' => (O.below hw' O.lt).load) ?_
          go_simp
          refine wpQuiet_step (fun K hK => ?_)
          go_simp
          refine ⟨(.int .i16 wz), fun w' hw' => (W1 w' (TT w' hw')).mono fun e w'' ⟨he, hb⟩ => ⟨he, hw'.trans (hb.mono hw'.size)⟩, hK _ ?_⟩
          clear hK K
          refine quiet_load (t := 61) (v := .agg m.row) rfl rfl rfl (fun w' hw' => load_mem (M.below hw' M.z)) ?_
          go_simp
          refine quiet_load (t := 24) (v := (.agg #[.int .i64 k', .int .i64 n', .int .i64 p'])) rfl rfl rfl (fun w' hw' => (O.below hw' O.lt).load) ?_
          go_simp
          refine wpQuiet_step (fun K hK => ?_)
          go_simp
          refine ⟨(.int .i16 wz), fun w' hw' => (W2 w' (TT w' hw')).mono fun e w'' ⟨he, hb⟩ => ⟨he, hw'.trans (hb.mono hw'.size)⟩, hK _ ?_⟩
          clear hK K
          refine wpQuiet_step (fun K hK => ?_)
          go_simp
          refine ⟨.bool false, fun _ _ => by simp, hK _ ?_⟩
          clear hK K
          quiet_step (exact fun _ => rfl)
          refine wpQuiet_nil ?_
          intro w9 hw9
          have M9 := M.below hw9 M.z
          have P9 := P.below hw9 P.z
          have G9 := G.below hw9 G.lt
          have BW9 := BW.trans (hw9.mono BW.size)
          clear M P G O BW TT CA CO W1 W2 hw9
          go_upto_region 12 with fail
          have TT : ∀ w', Below w9.heap.size w9 w' → KTab w' := fun w' hw' => T.below (BW9.trans (hw'.mono BW9.size)) (Nat.le_refl _)
          refine wp_region_belowM (by kernel_rfl) (by kernel_rfl) ?_
          refine quiet_load (t := 61) (v := .agg r.row) rfl rfl rfl (fun w' hw' => load_mem (P9.below hw' P9.z)) ?_
          go_simp
          refine quiet_load (t := 24) (v := (.agg #[.int .i64 k, .int .i64 n, .int .i64 p])) rfl rfl rfl (fun w' hw' => (G9.below hw' G9.lt).load) ?_
          go_simp
          refine wpQuiet_step (fun K hK => ?_)
          go_simp
          refine ⟨(.bool b), fun w' hw' => (CX w' (TT w' hw')).mono fun e w'' ⟨he, hb⟩ => ⟨he, hw'.trans (hb.mono hw'.size)⟩, hK _ ?_⟩
          clear hK K
          quiet_step (exact fun _ => rfl)
          refine wpQuiet_step (fun K hK => ?_)
          go_simp
          refine ⟨.bool true, fun _ _ => by simp, hK _ ?_⟩
          clear hK K
          quiet_step (exact fun _ => rfl)
          refine quiet_load (t := 61) (v := .agg r.row) rfl rfl rfl (fun w' hw' => load_mem (P9.below hw' P9.z)) ?_
          go_simp
          refine quiet_load (t := 24) (v := (.agg #[.int .i64 k, .int .i64 n, .int .i64 p])) rfl rfl rfl (fun w' hw' => (G9.below hw' G9.lt).load) ?_
          go_simp
          quiet_step (exact fun _ => rfl)
          refine wpQuiet_step (fun K hK => ?_)
          go_simp
          refine ⟨(.agg m.row), fun w' hw' => (CY w' (TT w' hw')).mono fun e w'' ⟨he, hb⟩ => ⟨he, hw'.trans (hb.mono hw'.size)⟩, hK _ ?_⟩
          clear hK K
          refine quiet_load (t := 61) (v := .agg m.row) rfl rfl rfl (fun w' hw' => load_mem (M9.below hw' M9.z)) ?_
          go_simp
          refine wpQuiet_step (fun K hK => ?_)
          go_simp
          refine ⟨(.bool true), fun w' hw' => (CZ w').mono fun e w'' ⟨he, hb⟩ => ⟨he, hw'.trans (hb.mono hw'.size)⟩, hK _ ?_⟩
          clear hK K
          quiet_step (exact fun _ => rfl)
          quiet_step (exact fun _ => rfl)
          refine wpQuiet_nil ?_
          intro w10 hw10
          have BW10 := BW9.trans (hw10.mono BW9.size)
          clear hw10 TT M9 P9 G9 BW9 CX CY CZ
          go_wp2_with fail
          go_ret
          exact ⟨rfl, BW10⟩
  · have e0 : r = m := Hr.out.trans (put_none m b hk)
    have CS : ∀ w, Calls Tryd.prog 41 #[.agg r.row, .agg m.row] w fun e w' => e = .returned (.bool true) ∧ Below w.heap.size w w' := fun w => same_true (e0 ▸ hm) hm (e0 ▸ same_self r) w
    clear e0
    have g0 := G5.c0
    by_cases h2 : k < 2
    · have e1 : decide (k < 2) = true := by simpa using h2
      go_upto_region 7 with fail
      go_wp2_with (refine list_load (t := 61) rfl rfl rfl (load_mem P5) ?_; refine list_load (t := 61) rfl rfl rfl (load_mem M5) ?_)
      refine (CS w5).mono ?_
      rintro e w6 ⟨rfl, hb6⟩
      have BW6 := BW5.trans (hb6.mono BW5.size)
      clear M5 P5 G5 BW5 hb6 CS
      go_wp2_with fail
      go_ret
      exact ⟨rfl, BW6⟩
    · have e1 : decide (k < 2) = false := by simpa using h2
      have e2 : decide (5 < k) = true := by simp; omega
      go_upto_region 7 with fail
      go_wp2_with (refine list_load (t := 61) rfl rfl rfl (load_mem P5) ?_; refine list_load (t := 61) rfl rfl rfl (load_mem M5) ?_)
      refine (CS w5).mono ?_
      rintro e w6 ⟨rfl, hb6⟩
      have BW6 := BW5.trans (hb6.mono BW5.size)
      clear M5 P5 G5 BW5 hb6 CS
      go_wp2_with fail
      go_ret
      exact ⟨rfl, BW6⟩

set_option maxHeartbeats 400000 in
theorem law_long (a0 a1 : Option Addr) (l0 c0 l1 c1 : Nat) (w : World) (h : 1048576 < l0 ∨ 1048576 < l1) :
    Calls Tryd.prog 8 #[.slice a0 l0 c0, .slice a1 l1 c1] w fun e w' => e = .returned (.bool true) ∧ Below w.heap.size w w' := by
  by_cases h0 : 1048576 < l0
  · go_enter Tryd.func8, Tryd.ntmps8
    go_wp2
    go_ret
    exact ⟨rfl, Below.refl _ _⟩
  · have h1 : 1048576 < l1 := by omega
    clear h
    go_enter Tryd.func8, Tryd.ntmps8
    go_wp2
    go_ret
    exact ⟨rfl, Below.refl _ _⟩

theorem law (a0 a1 : Option Addr) (l0 c0 l1 c1 : Nat) (w : World) (C0 : CodeAt (.slice a0 l0 c0) w) (C1 : CodeAt (.slice a1 l1 c1) w) (T : KTab w) :
    Calls Tryd.prog 8 #[.slice a0 l0 c0, .slice a1 l1 c1] w fun e w' => e = .returned (.bool true) ∧ Below w.heap.size w w' := by
  by_cases hs : 1048576 < l0 ∨ 1048576 < l1
  · exact law_long a0 a1 l0 c0 l1 c1 w hs
  · exact law_short a0 a1 l0 c0 l1 c1 w T (by omega) (by omega) C0 C1

end Go.Proofs.YtdhoimjkgicneaaDoor.PutB

/- Two drawn memories that are one, or nearly. -/
namespace Go.Proofs.YtdhoimjkgicneaaDoor
open Go Go.RowKit

/-- A reader, two memories of nothing for the answers, a memory and another. -/
structure Ds (R c qa qb : Nat) (a : MemV) (w wr : World) : Prop where
  rd : Rd R c wr
  b : Below w.heap.size w wr
  r0 : MemAt w.heap.size mem0 wr
  r1 : MemAt (w.heap.size + 1) mem0 wr
  ma : MemAt qa a wr
  mb : MemSome qb wr
  le : w.heap.size + 1 < R ∧ R < qa ∧ qa < qb

theorem Ds.call {R c c' qa qb : Nat} {a : MemV} {w wr w2 : World} (h : Ds R c qa qb a w wr) (rd : Rd R c' w2) (mv : Moved R wr w2) : Ds R c' qa qb a w w2 := by
  have hl := h.le
  exact ⟨rd, h.b.trans (mv.below h.b.size (by omega)), h.r0.moved mv (by omega), h.r1.moved mv (by omega), h.ma.moved mv (by omega), h.mb.moved mv (by omega), h.le⟩
theorem Ds.drew {R c qa qb : Nat} {a : MemV} {w wr : World} (h : Ds R c qa qb a w wr) : Ds R c qa qb a w wr.drew := h.call h.rd.drew (Moved.of_below (Below.refl _ wr).drew (Nat.le_refl _))
theorem Ds.set {R c qa qb k : Nat} {a : MemV} {u : Value} {w wr : World} (h : Ds R c qa qb a w wr) (hk : k < 136) (hu : fitC k u) : Ds R c qa qb a w (wr.setCell ⟨qb, k, none⟩ u) := by
  have hl := h.le
  have o : ∀ {b : Nat} {v : MemV}, MemAt b v wr → b ≠ qb → MemAt b v (wr.setCell ⟨qb, k, none⟩ u) := fun hm hn => hm.of_block (Below.heap_setCell _ _ _ _ (by simpa using hn)) (by simpa using hm.z)
  exact ⟨h.rd.setCell (by show R < qb; omega) _, h.b.setCell (by show _ ≤ qb; omega) _, o h.r0 (by omega), o h.r1 (by omega), o h.ma (by omega), h.mb.set hk hu, h.le⟩
theorem Ds.mem {R c qa qb : Nat} {a m : MemV} {w wr : World} (h : Ds R c qa qb a w wr) (hm : m.Ok) : Ds R c qa qb a w (wr.setCells qb 0 m.row.toList) := by
  have hl := h.le
  obtain ⟨v, -, hv⟩ := h.mb
  exact ⟨Rd.setCells _ h.rd (by omega), setCells_below _ _ _ h.b (by omega), h.r0.other (by omega), h.r1.other (by omega), h.ma.other (by omega), ⟨m, hm, hv.stored m⟩, h.le⟩

theorem ret_two {fn : Func} {R : Ending → World → Prop} {a : Act} {w : World} {b d c c' : Nat} {v u : MemV} (hf : fn.results = #[.cell c 61, .cell c' 61]) (hc : a.tmps.getD c undef = .pointer (some ⟨b, 0, none⟩)) (hc' : a.tmps.getD c' undef = .pointer (some ⟨d, 0, none⟩))
    (hd : a.defers = []) (h : MemAt b v w) (g : MemAt d u w) (hR : R (.returned (.tuple #[.agg v.row, .agg u.row])) w) : bodyPost Tryd.prog fn R .ret a w := by
  refine ⟨hd, .tuple #[.agg v.row, .agg u.row], ?_, hR⟩
  have hl : (loadVar 61 ⟨b, 0, none⟩).run Tryd.prog w = .ok (.agg v.row) w := by
    have := load_mem h
    simpa only [Instr.loadAt, Instr.sureAddr, Sem.run_bind, Sem.run_pure, Result.andThen] using this
  have hl' : (loadVar 61 ⟨d, 0, none⟩).run Tryd.prog w = .ok (.agg u.row) w := by
    have := load_mem g
    simpa only [Instr.loadAt, Instr.sureAddr, Sem.run_bind, Sem.run_pure, Result.andThen] using this
  have e1 : a.tmps[c]?.getD undef = .pointer (some ⟨b, 0, none⟩) := by simpa using hc
  have e2 : a.tmps[c']?.getD undef = .pointer (some ⟨d, 0, none⟩) := by simpa using hc'
  simp [results, hf, e1, e2, asAddr, hl, hl']

theorem put_okk {v : MemV} (n : Int) (b : Bool) (k : Int) (hv : v.Ok) : (putV v k n b).Ok := by
  by_cases h : 2 ≤ k ∧ k ≤ 5
  · exact Go.Proofs.YtdhoimjkgicneaaDoor.PutB.put_ok n b hv h
  · unfold putV
    rw [if_neg (by omega), if_neg (by omega), if_neg (by omega), if_neg (by omega)]
    exact hv
theorem op_loadS {o : Oper} {a : Act} {w : World} {K : Act → World → Prop} {Q : Exit → Act → World → Prop} {t : TypeId} {p : Operand} {v : Value} (ho : o.op = .load t p)
    (h : (Instr.loadAt t (a.eval p)).run Tryd.prog w = .ok v w) (hK : K (a.put o.dst v) w) : o.wp Tryd.prog a w K Q := by
  have e : (execOp a.eval o).run Tryd.prog w = .ok (.value v) w := by
    simp only [execOp, ho, Sem.run_bind, h, Result.andThen, Sem.run_pure]
  unfold Oper.wp
  rw [e]
  exact hK

theorem ds_open {w w1 : World} {t1 t2 : TypeId} (rd : Rd ((w.alloc (.cells Tryd.zeroCells61 t1)).alloc (.cells Tryd.zeroCells61 t2)).heap.size 0 w1)
    (hb : Below ((w.alloc (.cells Tryd.zeroCells61 t1)).alloc (.cells Tryd.zeroCells61 t2)).heap.size ((w.alloc (.cells Tryd.zeroCells61 t1)).alloc (.cells Tryd.zeroCells61 t2)) w1) :
    Rd (w.heap.size + 1 + 1) 0 w1 ∧ Below w.heap.size w w1 ∧ MemAt w.heap.size mem0 w1 ∧ MemAt (w.heap.size + 1) mem0 w1 := by
  rw [zero_row] at rd hb
  have e : ((w.alloc (.cells mem0.row t1)).alloc (.cells mem0.row t2)).heap.size = w.heap.size + 1 + 1 := by simp
  have h1 : ∀ (w : World) (o : Obj), Below w.heap.size w (w.alloc o) := fun w o => (Below.refl _ _).alloc (Nat.le_refl _) _
  have a0 : MemAt w.heap.size mem0 ((w.alloc (.cells mem0.row t1)).alloc (.cells mem0.row t2)) := (MemAt.alloc mem0 w t1).below (h1 _ _) (by simp)
  have a1 : MemAt (w.heap.size + 1) mem0 ((w.alloc (.cells mem0.row t1)).alloc (.cells mem0.row t2)) := by
    have := MemAt.alloc mem0 (w.alloc (.cells mem0.row t1)) t2
    simpa using this
  have b0 : Below w.heap.size w ((w.alloc (.cells mem0.row t1)).alloc (.cells mem0.row t2)) := ((Below.refl w.heap.size w).alloc (Nat.le_refl _) _).alloc (by simp) _
  rw [e] at rd
  exact ⟨rd, b0.trans (hb.mono (by rw [e]; omega)), a0.below hb (by rw [e]; omega), a1.below hb (by rw [e]; omega)⟩

theorem wrapI16 (z : Int) : -32768 ≤ IntKind.i16.wrap z ∧ IntKind.i16.wrap z ≤ 32767 := by
  simp [IntKind.wrap, IntKind.signed, IntKind.bits]
  omega

set_option maxRecDepth 100000 in
set_option maxHeartbeats 8000000 in
theorem draw_same (v : Value) (w : World) (h : CodeAt v w) :
    Calls Tryd.prog 49 #[v] w fun e w' => ∃ a b : MemV, a.Ok ∧ b.Ok ∧ e = .returned (.tuple #[.agg a.row, .agg b.row]) ∧ Below w.heap.size w w' := by
  have h' : CodeAt v ((w.alloc (.cells Tryd.zeroCells61 61)).alloc (.cells Tryd.zeroCells61 61)) := (h.below ((Below.refl w.heap.size w).alloc (Nat.le_refl _) _)).below ((Below.refl _ _).alloc (Nat.le_refl _) _)
  go_enter Tryd.func49, Tryd.ntmps49
  go_wp2_with fail
  refine (open_any v _ h').mono ?_
  rintro e w1 ⟨rfl, rd1, hb1⟩
  obtain ⟨rd, bw, r0, r1⟩ := ds_open rd1 hb1
  rw [show ((w.alloc (.cells Tryd.zeroCells61 61)).alloc (.cells Tryd.zeroCells61 61)).heap.size = w.heap.size + 1 + 1 from by simp]
  clear rd1 hb1 h h'
  go_wp2_with fail
  refine (draw_mem (w.heap.size + 1 + 1) 0 w1 rd (by omega)).mono ?_
  rintro e w2 ⟨a, hoa, rfl, rd2, mv2⟩
  have hR2 := rd2.size
  have bw2 := bw.trans (mv2.below bw.size (by omega))
  have r02 := r0.moved mv2 (by omega)
  have r12 := r1.moved mv2 (by omega)
  clear rd mv2 bw r0 r1
  have Za : MemAt w2.heap.size mem0 (w2.alloc (.cells Tryd.zeroCells61 61)) := by rw [zero_row]; exact MemAt.alloc mem0 w2 61
  have La := store_mem a Za
  have ba : Below w2.heap.size w2 (w2.alloc (.cells Tryd.zeroCells61 61)) := (Below.refl _ _).alloc (Nat.le_refl _) _
  have Ma := Za.stored a
  have rd3 : Rd (w.heap.size + 1 + 1) (0 + 200) ((w2.alloc (.cells Tryd.zeroCells61 61)).setCells w2.heap.size 0 a.row.toList) := Rd.setCells _ (rd2.alloc _) hR2
  have bw3 : Below w.heap.size w ((w2.alloc (.cells Tryd.zeroCells61 61)).setCells w2.heap.size 0 a.row.toList) := setCells_below _ _ _ (bw2.trans (ba.mono bw2.size)) bw2.size
  have r03 := (r02.below ba r02.z).other (c := w2.heap.size) (o := 0) (vs := a.row.toList) (by have := r02.z; omega)
  have r13 := (r12.below ba r12.z).other (c := w2.heap.size) (o := 0) (vs := a.row.toList) (by have := r12.z; omega)
  have z3 : ((w2.alloc (.cells Tryd.zeroCells61 61)).setCells w2.heap.size 0 a.row.toList).heap.size = w2.heap.size + 1 := by rw [setCells_size]; simp
  generalize ((w2.alloc (.cells Tryd.zeroCells61 61)).setCells w2.heap.size 0 a.row.toList) = w3 at La Ma rd3 bw3 r03 r13 z3
  go_upto_region 3 with (refine list_store (t := 61) (x := .pointer (some ⟨w2.heap.size, 0, none⟩)) (u := .agg a.row) rfl rfl rfl rfl La ?_; simp only [Act.put]; clear La)
  obtain ⟨qa, hqa⟩ : ∃ q, q = w2.heap.size := ⟨_, rfl⟩
  rw [← hqa] at Ma z3 hR2 ⊢
  clear hqa rd2 bw2 r02 r12 Za ba
  have L3 := load_mem Ma
  have Zb : MemAt w3.heap.size mem0 (w3.alloc (.cells Tryd.zeroCells61 61)) := by rw [zero_row]; exact MemAt.alloc mem0 w3 61
  have Lb := store_mem a Zb
  have bb : Below w3.heap.size w3 (w3.alloc (.cells Tryd.zeroCells61 61)) := (Below.refl _ _).alloc (Nat.le_refl _) _
  have D : Ds (w.heap.size + 1 + 1) 200 qa w3.heap.size a w ((w3.alloc (.cells Tryd.zeroCells61 61)).setCells w3.heap.size 0 a.row.toList) := by
    have hz := Ma.z
    have h0 := r03.z
    have h1 := r13.z
    refine ⟨Rd.setCells _ (rd3.alloc _) (by omega), setCells_below _ _ _ (bw3.trans (bb.mono bw3.size)) bw3.size, (r03.below bb r03.z).other (by omega), (r13.below bb r13.z).other (by omega), (Ma.below bb Ma.z).other (by omega), ⟨a, hoa, Zb.stored a⟩, by omega, by omega, by omega⟩
  generalize ((w3.alloc (.cells Tryd.zeroCells61 61)).setCells w3.heap.size 0 a.row.toList) = w4 at D Lb
  clear z3
  go_upto_region 4 with (first | (refine list_load (t := 61) rfl rfl rfl L3 ?_) | (refine list_store (t := 61) (x := .pointer (some ⟨w3.heap.size, 0, none⟩)) (u := .agg a.row) rfl rfl rfl rfl Lb ?_; simp only [Act.put]; clear Lb))
  obtain ⟨qb, hqb⟩ : ∃ q, q = w3.heap.size := ⟨_, rfl⟩
  rw [← hqb] at D ⊢
  clear hqb L3 Zb bb Ma rd3 bw3 r03 r13 hR2
  have D4 : Hid (Ds (w.heap.size + 1 + 1) 200 qa qb a w w4) := D
  clear D
  go_wp2_with fail
  refine (pick_any (w.heap.size + 1 + 1) 200 16 w4 D4.out.rd (by omega) (by omega)).mono ?_
  rintro e w5 ⟨k, rfl, k0, k1, -, rd5, mv5⟩
  have k1 := k1 (by omega)
  obtain ⟨k, rfl⟩ : ∃ j : Nat, k = (j : Int) := ⟨k.toNat, by omega⟩
  have hk : k < 16 := by omega
  have hk' : (0 : Int) ≤ (k : Int) ∧ (k : Int) < 16 := by omega
  have hk2 : (k : Int) < 32 := by omega
  have D5 : Hid (Ds (w.heap.size + 1 + 1) 201 qa qb a w w5) := D4.out.call rd5 mv5
  clear rd5 mv5 D4 k0 k1
  go_wp2_with fail
  refine (pick_any (w.heap.size + 1 + 1) 201 8 w5 D5.out.rd (by omega) (by omega)).mono ?_
  rintro e w6 ⟨p, rfl, p0, p1, -, rd6, mv6⟩
  have D6 : Hid (Ds (w.heap.size + 1 + 1) 202 qa qb a w w6) := D5.out.call rd6 mv6
  clear rd6 mv6 D5 p0 p1
  by_cases h0 : p = 0
  · subst h0
    go_wp2_with fail
    refine (real_all (w.heap.size + 1 + 1) 202 w6 D6.out.rd (by omega)).mono ?_
    rintro e w7 ⟨x, rfl, hx, rd7, mv7⟩
    have D7 : Hid (Ds (w.heap.size + 1 + 1) 214 qa qb a w w7) := D6.out.call rd7 mv7
    clear rd7 mv7 D6
    obtain ⟨u0, c0⟩ := D7.out.mb.c (k := 117 + k) (by omega)
    have f0 := D7.out.mb.f (k := 117 + k) (by omega)
    have s0 := store_float (z := x) c0 f0
    have D8 : Hid (Ds (w.heap.size + 1 + 1) 214 qa qb a w (w7.setCell ⟨qb, 117 + k, none⟩ (.float .f64 x))) := D7.out.set (by omega) (fit_r hk hx)
    clear D7
    go_upto_region 18 with fail
    generalize w7.setCell ⟨qb, 117 + k, none⟩ (.float .f64 x) = w8 at D8 ⊢
    clear c0 f0 s0
    have Dw8 : Hid (Ds (w.heap.size + 1 + 1) 214 qa qb a w w8) := D8.out
    clear D8
    obtain ⟨b, hob, Mb⟩ := Dw8.out.mb
    have hS : MemAt qa a w8.drew ∧ MemAt qb b w8.drew := ⟨Dw8.out.ma.of_block rfl Dw8.out.ma.z, Mb.of_block rfl Mb.z⟩
    have Dd : Ds (w.heap.size + 1 + 1) 214 qa qb a w w8.drew := Dw8.out.drew
    clear Mb
    go_wp2_with fail
    refine wp_region_held (S := fun w' => MemAt qa a w' ∧ MemAt qb b w') (by kernel_rfl) ?_
    refine held_load (fuel := 3) (i := 0) (t := 61) (v := .agg a.row) rfl rfl rfl (by kernel_rfl) (by kernel_rfl) (by kernel_rfl) rfl (fun _ _ _ h => h) (fun w' hw' => load_mem hw'.1) hS ?_
    go_simp
    refine held_load (fuel := 2) (i := 1) (t := 61) (v := .agg b.row) rfl rfl rfl (by kernel_rfl) (by kernel_rfl) (by kernel_rfl) rfl (fun _ _ _ h => h) (fun w' hw' => load_mem hw'.2) hS ?_
    go_simp
    refine wpAnyH_ready (rs := [2]) (by kernel_rfl) (by simp) ?_
    refine AllReadyH.cons rfl (fun K hK => ?_) AllReadyH.nil
    rw [if_pos (by rfl)]
    have hle := Dd.le
    have S2 : MemAt qa a (w8.drew.setCells w.heap.size 0 a.row.toList) ∧ MemAt qb b (w8.drew.setCells w.heap.size 0 a.row.toList) := ⟨hS.1.other (by omega), hS.2.other (by omega)⟩
    have A2 := Dd.r0.stored a
    have B2 := Dd.r1.other (c := w.heap.size) (o := 0) (vs := a.row.toList) (by omega)
    have W2 := setCells_below a.row.toList w.heap.size 0 Dd.b (Nat.le_refl _)
    refine op_store rfl (store_mem a Dd.r0) ?_
    refine hK.out _ _ S2 (fun _ => ?_)
    clear hK K hS Dd Dw8
    go_simp
    generalize w8.drew.setCells w.heap.size 0 a.row.toList = x2 at S2 A2 B2 W2 ⊢
    refine wpAnyH_ready (rs := [3]) (by kernel_rfl) (by simp) ?_
    refine AllReadyH.cons rfl (fun K hK => ?_) AllReadyH.nil
    rw [if_pos (by rfl)]
    have S3 : MemAt qa a (x2.setCells (w.heap.size + 1) 0 b.row.toList) ∧ MemAt qb b (x2.setCells (w.heap.size + 1) 0 b.row.toList) := ⟨S2.1.other (by omega), S2.2.other (by omega)⟩
    have A3 := A2.other (c := w.heap.size + 1) (o := 0) (vs := b.row.toList) (by omega)
    have B3 := B2.stored b
    have W3 := setCells_below b.row.toList (w.heap.size + 1) 0 W2 (by omega)
    refine op_store rfl (store_mem b B2) ?_
    refine hK.out _ _ S3 (fun _ => ?_)
    clear hK K S2 A2 B2 W2
    go_simp
    generalize x2.setCells (w.heap.size + 1) 0 b.row.toList = x3 at S3 A3 B3 W3 ⊢
    refine wpAnyH_done (by kernel_rfl) ?_ _
    clear S3
    go_wp2_with fail
    exact ret_two (c := 2) (c' := 3) rfl rfl rfl rfl A3 B3 ⟨a, b, hoa, hob, rfl, W3⟩
  have q0 : (p == 0) = false := by simpa using h0
  by_cases h1 : p = 1
  · subst h1
    obtain ⟨vb, hvb, Mb⟩ := D6.out.mb
    have c0 : w6.cell? ⟨qb, 85 + k, none⟩ = some (.int .i16 (vb.d k)) := (Mb.c _ (by omega)).trans (congrArg some (MemV.cell_d vb k (by omega)))
    have f0 := Mb.f (85 + k) (by omega)
    have D8 : Hid (Ds (w.heap.size + 1 + 1) 202 qa qb a w (w6.setCell ⟨qb, 85 + k, none⟩ (.int .i16 (IntKind.i16.wrap (vb.d k + 1))))) := D6.out.set (by omega) (fit_d (by omega) (wrapI16 _).1 (wrapI16 _).2)
    clear D6 Mb
    go_upto_region 18 with fail
    generalize w6.setCell ⟨qb, 85 + k, none⟩ (.int .i16 (IntKind.i16.wrap (vb.d k + 1))) = w8 at D8 ⊢
    clear c0 f0
    have Dw8 : Hid (Ds (w.heap.size + 1 + 1) 202 qa qb a w w8) := D8.out
    clear D8
    obtain ⟨b, hob, Mb⟩ := Dw8.out.mb
    have hS : MemAt qa a w8.drew ∧ MemAt qb b w8.drew := ⟨Dw8.out.ma.of_block rfl Dw8.out.ma.z, Mb.of_block rfl Mb.z⟩
    have Dd : Ds (w.heap.size + 1 + 1) 202 qa qb a w w8.drew := Dw8.out.drew
    clear Mb
    go_wp2_with fail
    refine wp_region_held (S := fun w' => MemAt qa a w' ∧ MemAt qb b w') (by kernel_rfl) ?_
    refine held_load (fuel := 3) (i := 0) (t := 61) (v := .agg a.row) rfl rfl rfl (by kernel_rfl) (by kernel_rfl) (by kernel_rfl) rfl (fun _ _ _ h => h) (fun w' hw' => load_mem hw'.1) hS ?_
    go_simp
    refine held_load (fuel := 2) (i := 1) (t := 61) (v := .agg b.row) rfl rfl rfl (by kernel_rfl) (by kernel_rfl) (by kernel_rfl) rfl (fun _ _ _ h => h) (fun w' hw' => load_mem hw'.2) hS ?_
    go_simp
    refine wpAnyH_ready (rs := [2]) (by kernel_rfl) (by simp) ?_
    refine AllReadyH.cons rfl (fun K hK => ?_) AllReadyH.nil
    rw [if_pos (by rfl)]
    have hle := Dd.le
    have S2 : MemAt qa a (w8.drew.setCells w.heap.size 0 a.row.toList) ∧ MemAt qb b (w8.drew.setCells w.heap.size 0 a.row.toList) := ⟨hS.1.other (by omega), hS.2.other (by omega)⟩
    have A2 := Dd.r0.stored a
    have B2 := Dd.r1.other (c := w.heap.size) (o := 0) (vs := a.row.toList) (by omega)
    have W2 := setCells_below a.row.toList w.heap.size 0 Dd.b (Nat.le_refl _)
    refine op_store rfl (store_mem a Dd.r0) ?_
    refine hK.out _ _ S2 (fun _ => ?_)
    clear hK K hS Dd Dw8
    go_simp
    generalize w8.drew.setCells w.heap.size 0 a.row.toList = x2 at S2 A2 B2 W2 ⊢
    refine wpAnyH_ready (rs := [3]) (by kernel_rfl) (by simp) ?_
    refine AllReadyH.cons rfl (fun K hK => ?_) AllReadyH.nil
    rw [if_pos (by rfl)]
    have S3 : MemAt qa a (x2.setCells (w.heap.size + 1) 0 b.row.toList) ∧ MemAt qb b (x2.setCells (w.heap.size + 1) 0 b.row.toList) := ⟨S2.1.other (by omega), S2.2.other (by omega)⟩
    have A3 := A2.other (c := w.heap.size + 1) (o := 0) (vs := b.row.toList) (by omega)
    have B3 := B2.stored b
    have W3 := setCells_below b.row.toList (w.heap.size + 1) 0 W2 (by omega)
    refine op_store rfl (store_mem b B2) ?_
    refine hK.out _ _ S3 (fun _ => ?_)
    clear hK K S2 A2 B2 W2
    go_simp
    generalize x2.setCells (w.heap.size + 1) 0 b.row.toList = x3 at S3 A3 B3 W3 ⊢
    refine wpAnyH_done (by kernel_rfl) ?_ _
    clear S3
    go_wp2_with fail
    exact ret_two (c := 2) (c' := 3) rfl rfl rfl rfl A3 B3 ⟨a, b, hoa, hob, rfl, W3⟩
  have q1 : (p == 1) = false := by simpa using h1
  by_cases h2 : p = 2
  · subst h2
    obtain ⟨vb, hvb, Mb⟩ := D6.out.mb
    have c0 : w6.cell? ⟨qb, 37 + k * 3 + 1, none⟩ = some (.bool (vb.cL k)) := (Mb.c _ (by omega)).trans (congrArg some (MemV.cell_cL vb k hk))
    have f0 := Mb.f (37 + k * 3 + 1) (by omega)
    have D8 : Hid (Ds (w.heap.size + 1 + 1) 202 qa qb a w (w6.setCell ⟨qb, 37 + k * 3 + 1, none⟩ (.bool (!vb.cL k)))) := D6.out.set (by omega) (fit_cL hk _)
    clear D6 Mb
    go_upto_region 18 with fail
    generalize w6.setCell ⟨qb, 37 + k * 3 + 1, none⟩ (.bool (!vb.cL k)) = w8 at D8 ⊢
    clear c0 f0
    have Dw8 : Hid (Ds (w.heap.size + 1 + 1) 202 qa qb a w w8) := D8.out
    clear D8
    obtain ⟨b, hob, Mb⟩ := Dw8.out.mb
    have hS : MemAt qa a w8.drew ∧ MemAt qb b w8.drew := ⟨Dw8.out.ma.of_block rfl Dw8.out.ma.z, Mb.of_block rfl Mb.z⟩
    have Dd : Ds (w.heap.size + 1 + 1) 202 qa qb a w w8.drew := Dw8.out.drew
    clear Mb
    go_wp2_with fail
    refine wp_region_held (S := fun w' => MemAt qa a w' ∧ MemAt qb b w') (by kernel_rfl) ?_
    refine held_load (fuel := 3) (i := 0) (t := 61) (v := .agg a.row) rfl rfl rfl (by kernel_rfl) (by kernel_rfl) (by kernel_rfl) rfl (fun _ _ _ h => h) (fun w' hw' => load_mem hw'.1) hS ?_
    go_simp
    refine held_load (fuel := 2) (i := 1) (t := 61) (v := .agg b.row) rfl rfl rfl (by kernel_rfl) (by kernel_rfl) (by kernel_rfl) rfl (fun _ _ _ h => h) (fun w' hw' => load_mem hw'.2) hS ?_
    go_simp
    refine wpAnyH_ready (rs := [2]) (by kernel_rfl) (by simp) ?_
    refine AllReadyH.cons rfl (fun K hK => ?_) AllReadyH.nil
    rw [if_pos (by rfl)]
    have hle := Dd.le
    have S2 : MemAt qa a (w8.drew.setCells w.heap.size 0 a.row.toList) ∧ MemAt qb b (w8.drew.setCells w.heap.size 0 a.row.toList) := ⟨hS.1.other (by omega), hS.2.other (by omega)⟩
    have A2 := Dd.r0.stored a
    have B2 := Dd.r1.other (c := w.heap.size) (o := 0) (vs := a.row.toList) (by omega)
    have W2 := setCells_below a.row.toList w.heap.size 0 Dd.b (Nat.le_refl _)
    refine op_store rfl (store_mem a Dd.r0) ?_
    refine hK.out _ _ S2 (fun _ => ?_)
    clear hK K hS Dd Dw8
    go_simp
    generalize w8.drew.setCells w.heap.size 0 a.row.toList = x2 at S2 A2 B2 W2 ⊢
    refine wpAnyH_ready (rs := [3]) (by kernel_rfl) (by simp) ?_
    refine AllReadyH.cons rfl (fun K hK => ?_) AllReadyH.nil
    rw [if_pos (by rfl)]
    have S3 : MemAt qa a (x2.setCells (w.heap.size + 1) 0 b.row.toList) ∧ MemAt qb b (x2.setCells (w.heap.size + 1) 0 b.row.toList) := ⟨S2.1.other (by omega), S2.2.other (by omega)⟩
    have A3 := A2.other (c := w.heap.size + 1) (o := 0) (vs := b.row.toList) (by omega)
    have B3 := B2.stored b
    have W3 := setCells_below b.row.toList (w.heap.size + 1) 0 W2 (by omega)
    refine op_store rfl (store_mem b B2) ?_
    refine hK.out _ _ S3 (fun _ => ?_)
    clear hK K S2 A2 B2 W2
    go_simp
    generalize x2.setCells (w.heap.size + 1) 0 b.row.toList = x3 at S3 A3 B3 W3 ⊢
    refine wpAnyH_done (by kernel_rfl) ?_ _
    clear S3
    go_wp2_with fail
    exact ret_two (c := 2) (c' := 3) rfl rfl rfl rfl A3 B3 ⟨a, b, hoa, hob, rfl, W3⟩
  have q2 : (p == 2) = false := by simpa using h2
  by_cases h3 : p = 3
  · subst h3
    obtain ⟨vb, hvb, Mb⟩ := D6.out.mb
    have c0 : w6.cell? ⟨qb, 5 + k * 2 + 1, none⟩ = some (.int .u16 (vb.tC k : Nat)) := (Mb.c _ (by omega)).trans (congrArg some (MemV.cell_tC vb k hk))
    have f0 := Mb.f (5 + k * 2 + 1) (by omega)
    have D8 : Hid (Ds (w.heap.size + 1 + 1) 202 qa qb a w (w6.setCell ⟨qb, 5 + k * 2 + 1, none⟩ (.int .u16 (IntKind.u16.wrap ((vb.tC k : Int) + 1))))) := D6.out.set (by omega) (fit_tC hk _)
    clear D6 Mb
    go_upto_region 18 with fail
    generalize w6.setCell ⟨qb, 5 + k * 2 + 1, none⟩ (.int .u16 (IntKind.u16.wrap ((vb.tC k : Int) + 1))) = w8 at D8 ⊢
    clear c0 f0
    have Dw8 : Hid (Ds (w.heap.size + 1 + 1) 202 qa qb a w w8) := D8.out
    clear D8
    obtain ⟨b, hob, Mb⟩ := Dw8.out.mb
    have hS : MemAt qa a w8.drew ∧ MemAt qb b w8.drew := ⟨Dw8.out.ma.of_block rfl Dw8.out.ma.z, Mb.of_block rfl Mb.z⟩
    have Dd : Ds (w.heap.size + 1 + 1) 202 qa qb a w w8.drew := Dw8.out.drew
    clear Mb
    go_wp2_with fail
    refine wp_region_held (S := fun w' => MemAt qa a w' ∧ MemAt qb b w') (by kernel_rfl) ?_
    refine held_load (fuel := 3) (i := 0) (t := 61) (v := .agg a.row) rfl rfl rfl (by kernel_rfl) (by kernel_rfl) (by kernel_rfl) rfl (fun _ _ _ h => h) (fun w' hw' => load_mem hw'.1) hS ?_
    go_simp
    refine held_load (fuel := 2) (i := 1) (t := 61) (v := .agg b.row) rfl rfl rfl (by kernel_rfl) (by kernel_rfl) (by kernel_rfl) rfl (fun _ _ _ h => h) (fun w' hw' => load_mem hw'.2) hS ?_
    go_simp
    refine wpAnyH_ready (rs := [2]) (by kernel_rfl) (by simp) ?_
    refine AllReadyH.cons rfl (fun K hK => ?_) AllReadyH.nil
    rw [if_pos (by rfl)]
    have hle := Dd.le
    have S2 : MemAt qa a (w8.drew.setCells w.heap.size 0 a.row.toList) ∧ MemAt qb b (w8.drew.setCells w.heap.size 0 a.row.toList) := ⟨hS.1.other (by omega), hS.2.other (by omega)⟩
    have A2 := Dd.r0.stored a
    have B2 := Dd.r1.other (c := w.heap.size) (o := 0) (vs := a.row.toList) (by omega)
    have W2 := setCells_below a.row.toList w.heap.size 0 Dd.b (Nat.le_refl _)
    refine op_store rfl (store_mem a Dd.r0) ?_
    refine hK.out _ _ S2 (fun _ => ?_)
    clear hK K hS Dd Dw8
    go_simp
    generalize w8.drew.setCells w.heap.size 0 a.row.toList = x2 at S2 A2 B2 W2 ⊢
    refine wpAnyH_ready (rs := [3]) (by kernel_rfl) (by simp) ?_
    refine AllReadyH.cons rfl (fun K hK => ?_) AllReadyH.nil
    rw [if_pos (by rfl)]
    have S3 : MemAt qa a (x2.setCells (w.heap.size + 1) 0 b.row.toList) ∧ MemAt qb b (x2.setCells (w.heap.size + 1) 0 b.row.toList) := ⟨S2.1.other (by omega), S2.2.other (by omega)⟩
    have A3 := A2.other (c := w.heap.size + 1) (o := 0) (vs := b.row.toList) (by omega)
    have B3 := B2.stored b
    have W3 := setCells_below b.row.toList (w.heap.size + 1) 0 W2 (by omega)
    refine op_store rfl (store_mem b B2) ?_
    refine hK.out _ _ S3 (fun _ => ?_)
    clear hK K S2 A2 B2 W2
    go_simp
    generalize x2.setCells (w.heap.size + 1) 0 b.row.toList = x3 at S3 A3 B3 W3 ⊢
    refine wpAnyH_done (by kernel_rfl) ?_ _
    clear S3
    go_wp2_with fail
    exact ret_two (c := 2) (c' := 3) rfl rfl rfl rfl A3 B3 ⟨a, b, hoa, hob, rfl, W3⟩
  have q3 : (p == 3) = false := by simpa using h3
  by_cases h4 : p = 4
  · subst h4
    go_upto_region 15 with fail
    have Dwd : Hid (Ds (w.heap.size + 1 + 1) 202 qa qb a w w6.drew) := D6.out.drew
    clear D6
    go_wp2_with fail
    refine wp_region_held (S := fun _ => True) (by kernel_rfl) ?_
    
    refine held_any (fuel := 7) (i := 1) (v := .pointer (some ⟨w.heap.size + 1 + 1, 0, none⟩)) rfl (by kernel_rfl) (by kernel_rfl) (by kernel_rfl) rfl (fun _ _ _ h => h) (fun _ _ => by simp [go_sem]) trivial ?_
    go_simp
    refine held_any (fuel := 6) (i := 3) (v := .pointer (some ⟨w.heap.size + 1 + 1, 0, none⟩)) rfl (by kernel_rfl) (by kernel_rfl) (by kernel_rfl) rfl (fun _ _ _ h => h) (fun _ _ => by simp [go_sem]) trivial ?_
    go_simp
    refine wpAnyH_ready (rs := [0, 2]) (by kernel_rfl) (by simp) ?_
    refine AllReadyH.cons rfl (fun K hK => ?_) (AllReadyH.cons rfl (fun K hK => ?_) AllReadyH.nil)
    · skip
      obtain ⟨vb, hvb, Mb⟩ := Dwd.out.mb
      rw [if_pos (by rfl)]
      refine op_loadS rfl (load_mem Mb) ?_
      clear Mb
      refine hK.out _ _ trivial (fun _ => ?_)
      clear hK K
      go_simp
      refine wpAnyH_ready (rs := [2]) (by kernel_rfl) (by simp) ?_
      refine AllReadyH.cons rfl (fun K hK => ?_) AllReadyH.nil
      go_simp
      have Dwa0 : True := trivial
      refine (asks_any (w.heap.size + 1 + 1) 202 _ (Dwd.out.rd) (by omega)).mono ?_
      rintro e wa ⟨ka, na, pa, rfl, rd, mv⟩
      have Dwa : Hid (Ds (w.heap.size + 1 + 1) 214 qa qb a w wa) := Dwd.out.call rd mv
      clear rd mv Dwd Dwa0
      refine hK.out _ _ trivial (fun _ => ?_)
      clear hK K
      go_simp
      refine wpAnyH_ready (rs := [4]) (by kernel_rfl) (by simp) ?_
      refine AllReadyH.cons rfl (fun K hK => ?_) AllReadyH.nil
      go_simp
      refine (pick_any (w.heap.size + 1 + 1) 214 2 _ (Dwa.out.rd) (by omega) (by omega)).mono ?_
      rintro e wb ⟨x, rfl, -, -, -, rd, mv⟩
      have Dwb : Hid (Ds (w.heap.size + 1 + 1) 215 qa qb a w wb) := Dwa.out.call rd mv
      clear rd mv Dwa
      refine hK.out _ _ trivial (fun _ => ?_)
      clear hK K
      go_simp
      refine held_any (fuel := 2) (i := 5) (v := .bool (x == 1)) rfl (by kernel_rfl) (by kernel_rfl) (by kernel_rfl) rfl (fun _ _ _ h => h) (fun _ _ => by go_simp) trivial ?_
      go_simp
      refine wpAnyH_ready (rs := [6]) (by kernel_rfl) (by simp) ?_
      refine AllReadyH.cons rfl (fun K hK => ?_) AllReadyH.nil
      go_simp
      refine (spec_memput vb ka na pa (x == 1) _ hvb).mono ?_
      rintro e wm ⟨rfl, hbm⟩
      have hom := put_okk na (x == 1) ka hvb
      generalize putV vb ka na (x == 1) = m at hom ⊢
      have Dwm : Hid (Ds (w.heap.size + 1 + 1) 215 qa qb a w wm) := Dwb.out.call (Dwb.out.rd.below hbm) (Moved.of_below hbm (Nat.le_refl _))
      clear hbm Dwb hvb
      refine hK.out _ _ trivial (fun _ => ?_)
      clear hK K
      go_simp
      refine wpAnyH_ready (rs := [7]) (by kernel_rfl) (by simp) ?_
      refine AllReadyH.cons rfl (fun K hK => ?_) AllReadyH.nil
      rw [if_pos (by rfl)]
      obtain ⟨vc, -, Mc⟩ := Dwm.out.mb
      have Dw8 : Hid (Ds (w.heap.size + 1 + 1) 215 qa qb a w (wm.setCells qb 0 m.row.toList)) := Dwm.out.mem hom
      refine op_store rfl (store_mem m Mc) ?_
      refine hK.out _ _ trivial (fun _ => ?_)
      clear hK K Dwm Mc
      go_simp
      generalize wm.setCells qb 0 m.row.toList = w8 at Dw8 ⊢
      refine wpAnyH_done (by kernel_rfl) ?_ _
      go_upto_region 18 with fail
      obtain ⟨b, hob, Mb⟩ := Dw8.out.mb
      have hS : MemAt qa a w8.drew ∧ MemAt qb b w8.drew := ⟨Dw8.out.ma.of_block rfl Dw8.out.ma.z, Mb.of_block rfl Mb.z⟩
      have Dd : Ds (w.heap.size + 1 + 1) 215 qa qb a w w8.drew := Dw8.out.drew
      clear Mb
      go_wp2_with fail
      refine wp_region_held (S := fun w' => MemAt qa a w' ∧ MemAt qb b w') (by kernel_rfl) ?_
      refine held_load (fuel := 3) (i := 0) (t := 61) (v := .agg a.row) rfl rfl rfl (by kernel_rfl) (by kernel_rfl) (by kernel_rfl) rfl (fun _ _ _ h => h) (fun w' hw' => load_mem hw'.1) hS ?_
      go_simp
      refine held_load (fuel := 2) (i := 1) (t := 61) (v := .agg b.row) rfl rfl rfl (by kernel_rfl) (by kernel_rfl) (by kernel_rfl) rfl (fun _ _ _ h => h) (fun w' hw' => load_mem hw'.2) hS ?_
      go_simp
      refine wpAnyH_ready (rs := [2]) (by kernel_rfl) (by simp) ?_
      refine AllReadyH.cons rfl (fun K hK => ?_) AllReadyH.nil
      rw [if_pos (by rfl)]
      have hle := Dd.le
      have S2 : MemAt qa a (w8.drew.setCells w.heap.size 0 a.row.toList) ∧ MemAt qb b (w8.drew.setCells w.heap.size 0 a.row.toList) := ⟨hS.1.other (by omega), hS.2.other (by omega)⟩
      have A2 := Dd.r0.stored a
      have B2 := Dd.r1.other (c := w.heap.size) (o := 0) (vs := a.row.toList) (by omega)
      have W2 := setCells_below a.row.toList w.heap.size 0 Dd.b (Nat.le_refl _)
      refine op_store rfl (store_mem a Dd.r0) ?_
      refine hK.out _ _ S2 (fun _ => ?_)
      clear hK K hS Dd Dw8
      go_simp
      generalize w8.drew.setCells w.heap.size 0 a.row.toList = x2 at S2 A2 B2 W2 ⊢
      refine wpAnyH_ready (rs := [3]) (by kernel_rfl) (by simp) ?_
      refine AllReadyH.cons rfl (fun K hK => ?_) AllReadyH.nil
      rw [if_pos (by rfl)]
      have S3 : MemAt qa a (x2.setCells (w.heap.size + 1) 0 b.row.toList) ∧ MemAt qb b (x2.setCells (w.heap.size + 1) 0 b.row.toList) := ⟨S2.1.other (by omega), S2.2.other (by omega)⟩
      have A3 := A2.other (c := w.heap.size + 1) (o := 0) (vs := b.row.toList) (by omega)
      have B3 := B2.stored b
      have W3 := setCells_below b.row.toList (w.heap.size + 1) 0 W2 (by omega)
      refine op_store rfl (store_mem b B2) ?_
      refine hK.out _ _ S3 (fun _ => ?_)
      clear hK K S2 A2 B2 W2
      go_simp
      generalize x2.setCells (w.heap.size + 1) 0 b.row.toList = x3 at S3 A3 B3 W3 ⊢
      refine wpAnyH_done (by kernel_rfl) ?_ _
      clear S3
      go_wp2_with fail
      exact ret_two (c := 2) (c' := 3) rfl rfl rfl rfl A3 B3 ⟨a, b, hoa, hob, rfl, W3⟩
    · go_simp
      have Dwa0 : True := trivial
      refine (asks_any (w.heap.size + 1 + 1) 202 _ (Dwd.out.rd) (by omega)).mono ?_
      rintro e wa ⟨ka, na, pa, rfl, rd, mv⟩
      have Dwa : Hid (Ds (w.heap.size + 1 + 1) 214 qa qb a w wa) := Dwd.out.call rd mv
      clear rd mv Dwd Dwa0
      refine hK.out _ _ trivial (fun _ => ?_)
      clear hK K
      go_simp
      refine wpAnyH_ready (rs := [0, 4]) (by kernel_rfl) (by simp) ?_
      refine AllReadyH.cons rfl (fun K hK => ?_) (AllReadyH.cons rfl (fun K hK => ?_) AllReadyH.nil)
      · skip
        obtain ⟨vb, hvb, Mb⟩ := Dwa.out.mb
        rw [if_pos (by rfl)]
        refine op_loadS rfl (load_mem Mb) ?_
        clear Mb
        refine hK.out _ _ trivial (fun _ => ?_)
        clear hK K
        go_simp
        refine wpAnyH_ready (rs := [4]) (by kernel_rfl) (by simp) ?_
        refine AllReadyH.cons rfl (fun K hK => ?_) AllReadyH.nil
        go_simp
        refine (pick_any (w.heap.size + 1 + 1) 214 2 _ (Dwa.out.rd) (by omega) (by omega)).mono ?_
        rintro e wb ⟨x, rfl, -, -, -, rd, mv⟩
        have Dwb : Hid (Ds (w.heap.size + 1 + 1) 215 qa qb a w wb) := Dwa.out.call rd mv
        clear rd mv Dwa
        refine hK.out _ _ trivial (fun _ => ?_)
        clear hK K
        go_simp
        refine held_any (fuel := 2) (i := 5) (v := .bool (x == 1)) rfl (by kernel_rfl) (by kernel_rfl) (by kernel_rfl) rfl (fun _ _ _ h => h) (fun _ _ => by go_simp) trivial ?_
        go_simp
        refine wpAnyH_ready (rs := [6]) (by kernel_rfl) (by simp) ?_
        refine AllReadyH.cons rfl (fun K hK => ?_) AllReadyH.nil
        go_simp
        refine (spec_memput vb ka na pa (x == 1) _ hvb).mono ?_
        rintro e wm ⟨rfl, hbm⟩
        have hom := put_okk na (x == 1) ka hvb
        generalize putV vb ka na (x == 1) = m at hom ⊢
        have Dwm : Hid (Ds (w.heap.size + 1 + 1) 215 qa qb a w wm) := Dwb.out.call (Dwb.out.rd.below hbm) (Moved.of_below hbm (Nat.le_refl _))
        clear hbm Dwb hvb
        refine hK.out _ _ trivial (fun _ => ?_)
        clear hK K
        go_simp
        refine wpAnyH_ready (rs := [7]) (by kernel_rfl) (by simp) ?_
        refine AllReadyH.cons rfl (fun K hK => ?_) AllReadyH.nil
        rw [if_pos (by rfl)]
        obtain ⟨vc, -, Mc⟩ := Dwm.out.mb
        have Dw8 : Hid (Ds (w.heap.size + 1 + 1) 215 qa qb a w (wm.setCells qb 0 m.row.toList)) := Dwm.out.mem hom
        refine op_store rfl (store_mem m Mc) ?_
        refine hK.out _ _ trivial (fun _ => ?_)
        clear hK K Dwm Mc
        go_simp
        generalize wm.setCells qb 0 m.row.toList = w8 at Dw8 ⊢
        refine wpAnyH_done (by kernel_rfl) ?_ _
        go_upto_region 18 with fail
        obtain ⟨b, hob, Mb⟩ := Dw8.out.mb
        have hS : MemAt qa a w8.drew ∧ MemAt qb b w8.drew := ⟨Dw8.out.ma.of_block rfl Dw8.out.ma.z, Mb.of_block rfl Mb.z⟩
        have Dd : Ds (w.heap.size + 1 + 1) 215 qa qb a w w8.drew := Dw8.out.drew
        clear Mb
        go_wp2_with fail
        refine wp_region_held (S := fun w' => MemAt qa a w' ∧ MemAt qb b w') (by kernel_rfl) ?_
        refine held_load (fuel := 3) (i := 0) (t := 61) (v := .agg a.row) rfl rfl rfl (by kernel_rfl) (by kernel_rfl) (by kernel_rfl) rfl (fun _ _ _ h => h) (fun w' hw' => load_mem hw'.1) hS ?_
        go_simp
        refine held_load (fuel := 2) (i := 1) (t := 61) (v := .agg b.row) rfl rfl rfl (by kernel_rfl) (by kernel_rfl) (by kernel_rfl) rfl (fun _ _ _ h => h) (fun w' hw' => load_mem hw'.2) hS ?_
        go_simp
        refine wpAnyH_ready (rs := [2]) (by kernel_rfl) (by simp) ?_
        refine AllReadyH.cons rfl (fun K hK => ?_) AllReadyH.nil
        rw [if_pos (by rfl)]
        have hle := Dd.le
        have S2 : MemAt qa a (w8.drew.setCells w.heap.size 0 a.row.toList) ∧ MemAt qb b (w8.drew.setCells w.heap.size 0 a.row.toList) := ⟨hS.1.other (by omega), hS.2.other (by omega)⟩
        have A2 := Dd.r0.stored a
        have B2 := Dd.r1.other (c := w.heap.size) (o := 0) (vs := a.row.toList) (by omega)
        have W2 := setCells_below a.row.toList w.heap.size 0 Dd.b (Nat.le_refl _)
        refine op_store rfl (store_mem a Dd.r0) ?_
        refine hK.out _ _ S2 (fun _ => ?_)
        clear hK K hS Dd Dw8
        go_simp
        generalize w8.drew.setCells w.heap.size 0 a.row.toList = x2 at S2 A2 B2 W2 ⊢
        refine wpAnyH_ready (rs := [3]) (by kernel_rfl) (by simp) ?_
        refine AllReadyH.cons rfl (fun K hK => ?_) AllReadyH.nil
        rw [if_pos (by rfl)]
        have S3 : MemAt qa a (x2.setCells (w.heap.size + 1) 0 b.row.toList) ∧ MemAt qb b (x2.setCells (w.heap.size + 1) 0 b.row.toList) := ⟨S2.1.other (by omega), S2.2.other (by omega)⟩
        have A3 := A2.other (c := w.heap.size + 1) (o := 0) (vs := b.row.toList) (by omega)
        have B3 := B2.stored b
        have W3 := setCells_below b.row.toList (w.heap.size + 1) 0 W2 (by omega)
        refine op_store rfl (store_mem b B2) ?_
        refine hK.out _ _ S3 (fun _ => ?_)
        clear hK K S2 A2 B2 W2
        go_simp
        generalize x2.setCells (w.heap.size + 1) 0 b.row.toList = x3 at S3 A3 B3 W3 ⊢
        refine wpAnyH_done (by kernel_rfl) ?_ _
        clear S3
        go_wp2_with fail
        exact ret_two (c := 2) (c' := 3) rfl rfl rfl rfl A3 B3 ⟨a, b, hoa, hob, rfl, W3⟩
      · go_simp
        refine (pick_any (w.heap.size + 1 + 1) 214 2 _ (Dwa.out.rd) (by omega) (by omega)).mono ?_
        rintro e wb ⟨x, rfl, -, -, -, rd, mv⟩
        have Dwb : Hid (Ds (w.heap.size + 1 + 1) 215 qa qb a w wb) := Dwa.out.call rd mv
        clear rd mv Dwa
        refine hK.out _ _ trivial (fun _ => ?_)
        clear hK K
        go_simp
        refine held_any (fuel := 3) (i := 5) (v := .bool (x == 1)) rfl (by kernel_rfl) (by kernel_rfl) (by kernel_rfl) rfl (fun _ _ _ h => h) (fun _ _ => by go_simp) trivial ?_
        go_simp
        refine wpAnyH_ready (rs := [0]) (by kernel_rfl) (by simp) ?_
        refine AllReadyH.cons rfl (fun K hK => ?_) AllReadyH.nil
        obtain ⟨vb, hvb, Mb⟩ := Dwb.out.mb
        rw [if_pos (by rfl)]
        refine op_loadS rfl (load_mem Mb) ?_
        clear Mb
        refine hK.out _ _ trivial (fun _ => ?_)
        clear hK K
        go_simp
        refine wpAnyH_ready (rs := [6]) (by kernel_rfl) (by simp) ?_
        refine AllReadyH.cons rfl (fun K hK => ?_) AllReadyH.nil
        go_simp
        refine (spec_memput vb ka na pa (x == 1) _ hvb).mono ?_
        rintro e wm ⟨rfl, hbm⟩
        have hom := put_okk na (x == 1) ka hvb
        generalize putV vb ka na (x == 1) = m at hom ⊢
        have Dwm : Hid (Ds (w.heap.size + 1 + 1) 215 qa qb a w wm) := Dwb.out.call (Dwb.out.rd.below hbm) (Moved.of_below hbm (Nat.le_refl _))
        clear hbm Dwb hvb
        refine hK.out _ _ trivial (fun _ => ?_)
        clear hK K
        go_simp
        refine wpAnyH_ready (rs := [7]) (by kernel_rfl) (by simp) ?_
        refine AllReadyH.cons rfl (fun K hK => ?_) AllReadyH.nil
        rw [if_pos (by rfl)]
        obtain ⟨vc, -, Mc⟩ := Dwm.out.mb
        have Dw8 : Hid (Ds (w.heap.size + 1 + 1) 215 qa qb a w (wm.setCells qb 0 m.row.toList)) := Dwm.out.mem hom
        refine op_store rfl (store_mem m Mc) ?_
        refine hK.out _ _ trivial (fun _ => ?_)
        clear hK K Dwm Mc
        go_simp
        generalize wm.setCells qb 0 m.row.toList = w8 at Dw8 ⊢
        refine wpAnyH_done (by kernel_rfl) ?_ _
        go_upto_region 18 with fail
        obtain ⟨b, hob, Mb⟩ := Dw8.out.mb
        have hS : MemAt qa a w8.drew ∧ MemAt qb b w8.drew := ⟨Dw8.out.ma.of_block rfl Dw8.out.ma.z, Mb.of_block rfl Mb.z⟩
        have Dd : Ds (w.heap.size + 1 + 1) 215 qa qb a w w8.drew := Dw8.out.drew
        clear Mb
        go_wp2_with fail
        refine wp_region_held (S := fun w' => MemAt qa a w' ∧ MemAt qb b w') (by kernel_rfl) ?_
        refine held_load (fuel := 3) (i := 0) (t := 61) (v := .agg a.row) rfl rfl rfl (by kernel_rfl) (by kernel_rfl) (by kernel_rfl) rfl (fun _ _ _ h => h) (fun w' hw' => load_mem hw'.1) hS ?_
        go_simp
        refine held_load (fuel := 2) (i := 1) (t := 61) (v := .agg b.row) rfl rfl rfl (by kernel_rfl) (by kernel_rfl) (by kernel_rfl) rfl (fun _ _ _ h => h) (fun w' hw' => load_mem hw'.2) hS ?_
        go_simp
        refine wpAnyH_ready (rs := [2]) (by kernel_rfl) (by simp) ?_
        refine AllReadyH.cons rfl (fun K hK => ?_) AllReadyH.nil
        rw [if_pos (by rfl)]
        have hle := Dd.le
        have S2 : MemAt qa a (w8.drew.setCells w.heap.size 0 a.row.toList) ∧ MemAt qb b (w8.drew.setCells w.heap.size 0 a.row.toList) := ⟨hS.1.other (by omega), hS.2.other (by omega)⟩
        have A2 := Dd.r0.stored a
        have B2 := Dd.r1.other (c := w.heap.size) (o := 0) (vs := a.row.toList) (by omega)
        have W2 := setCells_below a.row.toList w.heap.size 0 Dd.b (Nat.le_refl _)
        refine op_store rfl (store_mem a Dd.r0) ?_
        refine hK.out _ _ S2 (fun _ => ?_)
        clear hK K hS Dd Dw8
        go_simp
        generalize w8.drew.setCells w.heap.size 0 a.row.toList = x2 at S2 A2 B2 W2 ⊢
        refine wpAnyH_ready (rs := [3]) (by kernel_rfl) (by simp) ?_
        refine AllReadyH.cons rfl (fun K hK => ?_) AllReadyH.nil
        rw [if_pos (by rfl)]
        have S3 : MemAt qa a (x2.setCells (w.heap.size + 1) 0 b.row.toList) ∧ MemAt qb b (x2.setCells (w.heap.size + 1) 0 b.row.toList) := ⟨S2.1.other (by omega), S2.2.other (by omega)⟩
        have A3 := A2.other (c := w.heap.size + 1) (o := 0) (vs := b.row.toList) (by omega)
        have B3 := B2.stored b
        have W3 := setCells_below b.row.toList (w.heap.size + 1) 0 W2 (by omega)
        refine op_store rfl (store_mem b B2) ?_
        refine hK.out _ _ S3 (fun _ => ?_)
        clear hK K S2 A2 B2 W2
        go_simp
        generalize x2.setCells (w.heap.size + 1) 0 b.row.toList = x3 at S3 A3 B3 W3 ⊢
        refine wpAnyH_done (by kernel_rfl) ?_ _
        clear S3
        go_wp2_with fail
        exact ret_two (c := 2) (c' := 3) rfl rfl rfl rfl A3 B3 ⟨a, b, hoa, hob, rfl, W3⟩
  have q4 : (p == 4) = false := by simpa using h4
  by_cases h5 : p = 5
  · subst h5
    go_wp2_with fail
    refine (draw_mem (w.heap.size + 1 + 1) 202 w6 D6.out.rd (by omega)).mono ?_
    rintro e w7 ⟨m, hom, rfl, rd7, mv7⟩
    have D7 : Hid (Ds (w.heap.size + 1 + 1) 402 qa qb a w w7) := D6.out.call rd7 mv7
    clear rd7 mv7 D6
    obtain ⟨vb, -, Mb⟩ := D7.out.mb
    have Lm := store_mem m Mb
    have D8 : Hid (Ds (w.heap.size + 1 + 1) 402 qa qb a w (w7.setCells qb 0 m.row.toList)) := D7.out.mem hom
    clear D7 Mb
    generalize w7.setCells qb 0 m.row.toList = w8 at D8 Lm
    go_upto_region 18 with (refine list_store (t := 61) (x := .pointer (some ⟨qb, 0, none⟩)) (u := .agg m.row) rfl rfl rfl rfl Lm ?_; simp only [Act.put]; clear Lm)
    have Dw8 : Hid (Ds (w.heap.size + 1 + 1) 402 qa qb a w w8) := D8.out
    clear D8
    obtain ⟨b, hob, Mb⟩ := Dw8.out.mb
    have hS : MemAt qa a w8.drew ∧ MemAt qb b w8.drew := ⟨Dw8.out.ma.of_block rfl Dw8.out.ma.z, Mb.of_block rfl Mb.z⟩
    have Dd : Ds (w.heap.size + 1 + 1) 402 qa qb a w w8.drew := Dw8.out.drew
    clear Mb
    go_wp2_with fail
    refine wp_region_held (S := fun w' => MemAt qa a w' ∧ MemAt qb b w') (by kernel_rfl) ?_
    refine held_load (fuel := 3) (i := 0) (t := 61) (v := .agg a.row) rfl rfl rfl (by kernel_rfl) (by kernel_rfl) (by kernel_rfl) rfl (fun _ _ _ h => h) (fun w' hw' => load_mem hw'.1) hS ?_
    go_simp
    refine held_load (fuel := 2) (i := 1) (t := 61) (v := .agg b.row) rfl rfl rfl (by kernel_rfl) (by kernel_rfl) (by kernel_rfl) rfl (fun _ _ _ h => h) (fun w' hw' => load_mem hw'.2) hS ?_
    go_simp
    refine wpAnyH_ready (rs := [2]) (by kernel_rfl) (by simp) ?_
    refine AllReadyH.cons rfl (fun K hK => ?_) AllReadyH.nil
    rw [if_pos (by rfl)]
    have hle := Dd.le
    have S2 : MemAt qa a (w8.drew.setCells w.heap.size 0 a.row.toList) ∧ MemAt qb b (w8.drew.setCells w.heap.size 0 a.row.toList) := ⟨hS.1.other (by omega), hS.2.other (by omega)⟩
    have A2 := Dd.r0.stored a
    have B2 := Dd.r1.other (c := w.heap.size) (o := 0) (vs := a.row.toList) (by omega)
    have W2 := setCells_below a.row.toList w.heap.size 0 Dd.b (Nat.le_refl _)
    refine op_store rfl (store_mem a Dd.r0) ?_
    refine hK.out _ _ S2 (fun _ => ?_)
    clear hK K hS Dd Dw8
    go_simp
    generalize w8.drew.setCells w.heap.size 0 a.row.toList = x2 at S2 A2 B2 W2 ⊢
    refine wpAnyH_ready (rs := [3]) (by kernel_rfl) (by simp) ?_
    refine AllReadyH.cons rfl (fun K hK => ?_) AllReadyH.nil
    rw [if_pos (by rfl)]
    have S3 : MemAt qa a (x2.setCells (w.heap.size + 1) 0 b.row.toList) ∧ MemAt qb b (x2.setCells (w.heap.size + 1) 0 b.row.toList) := ⟨S2.1.other (by omega), S2.2.other (by omega)⟩
    have A3 := A2.other (c := w.heap.size + 1) (o := 0) (vs := b.row.toList) (by omega)
    have B3 := B2.stored b
    have W3 := setCells_below b.row.toList (w.heap.size + 1) 0 W2 (by omega)
    refine op_store rfl (store_mem b B2) ?_
    refine hK.out _ _ S3 (fun _ => ?_)
    clear hK K S2 A2 B2 W2
    go_simp
    generalize x2.setCells (w.heap.size + 1) 0 b.row.toList = x3 at S3 A3 B3 W3 ⊢
    refine wpAnyH_done (by kernel_rfl) ?_ _
    clear S3
    go_wp2_with fail
    exact ret_two (c := 2) (c' := 3) rfl rfl rfl rfl A3 B3 ⟨a, b, hoa, hob, rfl, W3⟩
  have q5 : (p == 5) = false := by simpa using h5
  have Dw6 : Hid (Ds (w.heap.size + 1 + 1) 202 qa qb a w w6) := D6.out
  clear D6
  obtain ⟨b, hob, Mb⟩ := Dw6.out.mb
  have hS : MemAt qa a w6.drew ∧ MemAt qb b w6.drew := ⟨Dw6.out.ma.of_block rfl Dw6.out.ma.z, Mb.of_block rfl Mb.z⟩
  have Dd : Ds (w.heap.size + 1 + 1) 202 qa qb a w w6.drew := Dw6.out.drew
  clear Mb
  go_wp2_with fail
  refine wp_region_held (S := fun w' => MemAt qa a w' ∧ MemAt qb b w') (by kernel_rfl) ?_
  refine held_load (fuel := 3) (i := 0) (t := 61) (v := .agg a.row) rfl rfl rfl (by kernel_rfl) (by kernel_rfl) (by kernel_rfl) rfl (fun _ _ _ h => h) (fun w' hw' => load_mem hw'.1) hS ?_
  go_simp
  refine held_load (fuel := 2) (i := 1) (t := 61) (v := .agg b.row) rfl rfl rfl (by kernel_rfl) (by kernel_rfl) (by kernel_rfl) rfl (fun _ _ _ h => h) (fun w' hw' => load_mem hw'.2) hS ?_
  go_simp
  refine wpAnyH_ready (rs := [2]) (by kernel_rfl) (by simp) ?_
  refine AllReadyH.cons rfl (fun K hK => ?_) AllReadyH.nil
  rw [if_pos (by rfl)]
  have hle := Dd.le
  have S2 : MemAt qa a (w6.drew.setCells w.heap.size 0 a.row.toList) ∧ MemAt qb b (w6.drew.setCells w.heap.size 0 a.row.toList) := ⟨hS.1.other (by omega), hS.2.other (by omega)⟩
  have A2 := Dd.r0.stored a
  have B2 := Dd.r1.other (c := w.heap.size) (o := 0) (vs := a.row.toList) (by omega)
  have W2 := setCells_below a.row.toList w.heap.size 0 Dd.b (Nat.le_refl _)
  refine op_store rfl (store_mem a Dd.r0) ?_
  refine hK.out _ _ S2 (fun _ => ?_)
  clear hK K hS Dd Dw6
  go_simp
  generalize w6.drew.setCells w.heap.size 0 a.row.toList = x2 at S2 A2 B2 W2 ⊢
  refine wpAnyH_ready (rs := [3]) (by kernel_rfl) (by simp) ?_
  refine AllReadyH.cons rfl (fun K hK => ?_) AllReadyH.nil
  rw [if_pos (by rfl)]
  have S3 : MemAt qa a (x2.setCells (w.heap.size + 1) 0 b.row.toList) ∧ MemAt qb b (x2.setCells (w.heap.size + 1) 0 b.row.toList) := ⟨S2.1.other (by omega), S2.2.other (by omega)⟩
  have A3 := A2.other (c := w.heap.size + 1) (o := 0) (vs := b.row.toList) (by omega)
  have B3 := B2.stored b
  have W3 := setCells_below b.row.toList (w.heap.size + 1) 0 W2 (by omega)
  refine op_store rfl (store_mem b B2) ?_
  refine hK.out _ _ S3 (fun _ => ?_)
  clear hK K S2 A2 B2 W2
  go_simp
  generalize x2.setCells (w.heap.size + 1) 0 b.row.toList = x3 at S3 A3 B3 W3 ⊢
  refine wpAnyH_done (by kernel_rfl) ?_ _
  clear S3
  go_wp2_with fail
  exact ret_two (c := 2) (c' := 3) rfl rfl rfl rfl A3 B3 ⟨a, b, hoa, hob, rfl, W3⟩

end Go.Proofs.YtdhoimjkgicneaaDoor

/- Taking a real number above nought apart: the steps, as whole numbers. Of no one program. -/
namespace Go.Proofs.YtdhoimjkgicneaaDoor
open Go Ieee

theorem num_c53 : Num 4845873199050653696 false 4503599627370496 (u74 + 1) := ⟨by decide +kernel, by decide, by decide, Or.inr (by decide)⟩
theorem num_c52 : Num 4841369599423283200 false 4503599627370496 u74 := ⟨by decide +kernel, by decide, by decide, Or.inr (by decide)⟩

theorem ge_of (a b : Nat) : ((some (compare (a : Int) (b : Int)) == some Ordering.gt) || (some (compare (a : Int) (b : Int)) == some Ordering.eq)) = decide (b ≤ a) := by
  rcases Nat.lt_trichotomy a b with h | h | h
  · rw [cmp_lt.2 (Int.ofNat_lt.2 h), show decide (b ≤ a) = false from by simpa using h]; rfl
  · subst h; simp
  · rw [cmp_gt.2 (Int.ofNat_lt.2 h), show decide (b ≤ a) = true from by simpa using Nat.le_of_lt h]; rfl
theorem lt_of (a b : Nat) : (some (compare (a : Int) (b : Int)) == some Ordering.lt) = decide (a < b) := by
  rcases Nat.lt_trichotomy a b with h | h | h
  · rw [cmp_lt.2 (Int.ofNat_lt.2 h), show decide (a < b) = true from by simpa using h]; rfl
  · subst h; simp
  · rw [cmp_gt.2 (Int.ofNat_lt.2 h), show decide (a < b) = false from by simpa using Nat.le_of_lt h]; rfl

theorem sg_pos (n : Nat) : sg false n = (n : Int) := rfl

theorem two_53 : 9007199254740992 * 2 ^ u74 = 4503599627370496 * 2 ^ (u74 + 1) := by rw [Nat.pow_succ]; omega

theorem ge53 {g m k : Nat} (h : Num g false m k) : ((FloatKind.f64.format.order g 4845873199050653696 == some .gt) || (FloatKind.f64.format.order g 4845873199050653696 == some .eq)) = decide (9007199254740992 * 2 ^ u74 ≤ m * 2 ^ k) := by
  have e : FloatKind.f64.format.order g 4845873199050653696 = some (compare (sg false (m * 2 ^ k)) (sg false (4503599627370496 * 2 ^ (u74 + 1)))) := order_val h.val num_c53.val
  rw [e, sg_pos, sg_pos, ← two_53, ge_of]

theorem lt52 {g m k : Nat} (h : Num g false m k) : (FloatKind.f64.format.order g 4841369599423283200 == some .lt) = decide (m * 2 ^ k < 4503599627370496 * 2 ^ u74) := by
  have e : FloatKind.f64.format.order g 4841369599423283200 = some (compare (sg false (m * 2 ^ k)) (sg false (4503599627370496 * 2 ^ u74))) := order_val h.val num_c52.val
  rw [e, sg_pos, sg_pos, lt_of]

theorem k_big {g m k : Nat} {s : Bool} (h : Num g s m k) (hb : 4503599627370496 * 2 ^ u74 ≤ m * 2 ^ k) : 1074 ≤ k := by
  have h1 : (2 : Nat) ^ (52 + u74) < 2 ^ (53 + k) := by
    rw [Nat.pow_add 2 52, Nat.pow_add 2 53, show (2 : Nat) ^ 53 = 9007199254740992 from by decide +kernel, show (2 : Nat) ^ 52 = 4503599627370496 from by decide +kernel]
    exact Nat.lt_of_le_of_lt hb (Nat.mul_lt_mul_of_pos_right h.m53 (Nat.two_pow_pos _))
  have := (Nat.pow_lt_pow_iff_right (a := 2) (by omega)).1 h1
  have := u74_eq
  omega

theorem half_step {g m k : Nat} (h : Num g false m k) (h0 : m ≠ 0) (hb : 9007199254740992 * 2 ^ u74 ≤ m * 2 ^ k) :
    ∃ r m' k', floatBits .quo .f64 g 4611686018427387904 = some r ∧ Num r false m' k' ∧ m' ≠ 0 ∧ m' * 2 ^ k' * 2 = m * 2 ^ k := by
  have hk := k_big h (by omega)
  obtain ⟨r, m', k', r1, r2, r3⟩ := div_two (a := m) (j := k - 1) h (by congr 2; omega) h.m53
  have e : m * 2 ^ (k - 1) * 2 = m * 2 ^ k := by rw [Nat.mul_assoc, ← Nat.pow_succ]; congr 2; omega
  refine ⟨r, m', k', r1, r2, ?_, by rw [r3, e]⟩
  intro hm
  subst hm
  rw [Nat.zero_mul] at r3
  rcases Nat.mul_eq_zero.1 r3.symm with h | h
  · exact h0 h
  · exact absurd h (Nat.ne_of_gt (Nat.two_pow_pos _))

theorem dbl_step {g m k : Nat} (h : Num g false m k) (h0 : m ≠ 0) (hb : m * 2 ^ k < 4503599627370496 * 2 ^ u74) :
    ∃ r m' k', floatBits .mul .f64 g 4611686018427387904 = some r ∧ Num r false m' k' ∧ m' ≠ 0 ∧ m' * 2 ^ k' = m * 2 ^ k * 2 := by
  have e : m * 2 ^ (k + 1) = m * 2 ^ k * 2 := by rw [Nat.pow_succ, Nat.mul_assoc]
  obtain ⟨r, m', k', r1, r2, r3⟩ := mul_two h (by
    rw [e]
    refine Nat.lt_of_lt_of_le (show m * 2 ^ k * 2 < 9007199254740992 * 2 ^ u74 by omega) ?_
    rw [show (9007199254740992 : Nat) = 2 ^ 53 from by decide +kernel, ← Nat.pow_add]
    exact Nat.pow_le_pow_right (by omega) (by rw [u74_eq, u98_eq]; omega))
  refine ⟨r, m', k', r1, r2, ?_, by rw [r3, e]⟩
  intro hm
  subst hm
  rw [Nat.zero_mul] at r3
  rcases Nat.mul_eq_zero.1 r3.symm with h | h
  · exact h0 h
  · exact absurd h (Nat.ne_of_gt (Nat.two_pow_pos _))

theorem whole_step {g m k : Nat} (h : Num g false m k) (h1 : 4503599627370496 * 2 ^ u74 ≤ m * 2 ^ k) (h2 : m * 2 ^ k < 9007199254740992 * 2 ^ u74) :
    floatToIntVal .f64 g .i64 = some (m : Int) ∧ m * 2 ^ k = m * 2 ^ u74 ∧ 4503599627370496 ≤ m := by
  have hk := k_big h h1
  have hm : 4503599627370496 ≤ m := by rcases h.norm with h | h <;> omega
  have hk2 : k ≤ 1074 := by
    have h3 : (2 : Nat) ^ (52 + k) < 2 ^ (53 + u74) := by
      rw [Nat.pow_add 2 52, Nat.pow_add 2 53, show (2 : Nat) ^ 53 = 9007199254740992 from by decide +kernel, show (2 : Nat) ^ 52 = 4503599627370496 from by decide +kernel]
      exact Nat.lt_of_le_of_lt (Nat.mul_le_mul_right _ hm) h2
    have := (Nat.pow_lt_pow_iff_right (a := 2) (by omega)).1 h3
    have := u74_eq
    omega
  have hku : k = u74 := by have := u74_eq; omega
  subst hku
  refine ⟨?_, rfl, hm⟩
  have e : (FloatKind.f64.decode g).toInt .zero = some (m : Int) := by
    rw [cut_num h, Nat.mul_div_cancel _ (Nat.two_pow_pos _)]; rfl
  have := h.m53
  simp only [floatToIntVal, e]
  rw [if_pos]
  simp [IntKind.min, IntKind.max, IntKind.signed, IntKind.bits]
  omega

/-- How often a number can be halved, or doubled. -/
theorem half_bound {W V j : Nat} (h : W * 2 ^ j = V) (hV : V < 2 ^ u98) (hW : 9007199254740992 * 2 ^ u74 ≤ W) : j < 971 := by
  have h1 : (2 : Nat) ^ (53 + u74 + j) < 2 ^ u98 := by
    refine Nat.lt_of_le_of_lt ?_ hV
    rw [← h, Nat.pow_add, Nat.pow_add 2 53]
    exact Nat.mul_le_mul_right _ (by rw [show (2 : Nat) ^ 53 = 9007199254740992 from by decide +kernel]; exact hW)
  have := (Nat.pow_lt_pow_iff_right (a := 2) (by omega)).1 h1
  have := u74_eq
  have := u98_eq
  omega

theorem dbl_bound {W W1 i : Nat} (h : W = W1 * 2 ^ i) (h1 : W1 ≠ 0) (hW : W < 9007199254740992 * 2 ^ u74) : i < 1127 := by
  have h2 : (2 : Nat) ^ i < 2 ^ (53 + u74) := by
    rw [Nat.pow_add 2 53, show (2 : Nat) ^ 53 = 9007199254740992 from by decide +kernel]
    refine Nat.lt_of_le_of_lt ?_ hW
    rw [h]
    exact Nat.le_mul_of_pos_left _ (by omega)
  have := (Nat.pow_lt_pow_iff_right (a := 2) (by omega)).1 h2
  have := u74_eq
  omega

theorem odd_bound {n m t : Nat} (h : n * 2 ^ t = m) (hn : n ≠ 0) (hm : m < 9007199254740992) : t < 53 := by
  have h2 : (2 : Nat) ^ t < 2 ^ 53 := by
    rw [show (2 : Nat) ^ 53 = 9007199254740992 from by decide +kernel]
    refine Nat.lt_of_le_of_lt ?_ hm
    rw [← h]
    exact Nat.le_mul_of_pos_left _ (by omega)
  exact (Nat.pow_lt_pow_iff_right (a := 2) (by omega)).1 h2

/-- What comes of the three loops. -/
theorem parts_endU {V W1 m n j i t u : Nat} (hu : u = 1074) (hV : W1 * 2 ^ j = V) (hW : m * 2 ^ u = W1 * 2 ^ i) (hn : n * 2 ^ t = m) (ho : n % 2 = 1) :
    ∃ c : Nat, V = n * 2 ^ c ∧ (c : Int) - 1074 = (j : Int) - i + t := by
  have e : V * 2 ^ i = n * 2 ^ (t + u + j) := by
    rw [← hV, Nat.mul_right_comm, ← hW, ← hn, Nat.mul_assoc, Nat.mul_assoc, ← Nat.pow_add, ← Nat.pow_add]
    congr 2
    omega
  by_cases hle : i ≤ t + u + j
  · refine ⟨t + u + j - i, ?_, by omega⟩
    have e2 : V * 2 ^ i = n * 2 ^ (t + u + j - i) * 2 ^ i := by rw [e, Nat.mul_assoc, ← Nat.pow_add]; congr 2; omega
    exact Nat.eq_of_mul_eq_mul_right (Nat.two_pow_pos i) e2
  · exfalso
    have e2 : V * 2 ^ (i - (t + u + j)) * 2 ^ (t + u + j) = n * 2 ^ (t + u + j) := by rw [← e, Nat.mul_assoc, ← Nat.pow_add]; congr 2; omega
    have e3 := Nat.eq_of_mul_eq_mul_right (Nat.two_pow_pos _) e2
    have : 2 ^ (i - (t + u + j)) = 2 * 2 ^ (i - (t + u + j) - 1) := by rw [← Nat.pow_succ']; congr 1; omega
    rw [this, Nat.mul_left_comm] at e3
    omega

theorem parts_end {V W1 m n j i t : Nat} (hV : W1 * 2 ^ j = V) (hW : m * 2 ^ u74 = W1 * 2 ^ i) (hn : n * 2 ^ t = m) (ho : n % 2 = 1) :
    ∃ c : Nat, V = n * 2 ^ c ∧ (c : Int) - 1074 = (j : Int) - i + t := parts_endU u74_eq hV hW hn ho

end Go.Proofs.YtdhoimjkgicneaaDoor
