/- Texts of this proof laid together: KoP, KoA. -/
import Derived.Test.YtdhoimjkgicneabDoorLot14
import Derived.Test.YtdhoimjkgicneabDoorLot18
import Derived.Test.YtdhoimjkgicneabDoorLot23
import Derived.Test.YtdhoimjkgicneabDoorLot29
import Derived.Test.YtdhoimjkgicneabDoorLot30
import Derived.Test.YtdhoimjkgicneabDoorLot31
/- What the law of what is kept asks. -/
namespace Go.Proofs.YtdhoimjkgicneabDoor
open Go Go.RowKit

attribute [local go_sem] zMemK

theorem kheld_skip {P : Program} {ops : Array Oper} {Q : Exit → Act → World → Prop} {md : Region.Mode} {S : World → Prop} {fuel : Nat} {ls : Array Bool} {a : Act} {w : World} {i : Nat} {o : Oper} (hi : ops[i]? = some o) (hs : Region.noSelect ops = true) (hf : Region.free md ops ls i = true) (hr : (Region.ready md ops ls).contains i = true)
    (hg : Region.wanted o (yielded ops a.tmps) = false) (hQ : ∀ c a w, Q (.panic c) (a.put o.dst undef) w → Q (.panic c) a w) (hS : S w)
    (h : wpAnyH P md ops Q S fuel (ls.setIfInBounds i true) (a.put o.dst undef) w) : wpAnyH P md ops Q S (fuel + 1) ls a w :=
  wpAnyH_take hi hs hf hr hQ (Or.inr ⟨hg, rfl⟩) hS h

theorem same_selfO (v : MemV) : SameM v v := ⟨rfl, rfl, rfl, rfl, rfl, fun _ _ => rfl, fun _ _ => rfl, fun _ _ => rfl, fun _ _ => rfl, fun _ _ => rfl, fun _ _ => rfl, fun _ _ => same_refl _, rfl, rfl, rfl⟩

theorem fresh_putO (x : MemV) (w : World) : MemAt w.heap.size mem0 (w.alloc (.cells mem0.row 37)) ∧ MemAt w.heap.size x ((w.alloc (.cells mem0.row 37)).setCells w.heap.size 0 x.row.toList) ∧ Below w.heap.size w ((w.alloc (.cells mem0.row 37)).setCells w.heap.size 0 x.row.toList) := by
  have h := MemAt.alloc mem0 w 37
  exact ⟨h, h.stored x, setCells_below _ _ _ ((Below.refl _ _).alloc (Nat.le_refl _) _) (Nat.le_refl _)⟩

theorem same_callO (r : MemV) (hr : r.Ok) (w : World) : Calls Tryd.prog 11 #[.agg r.row, .agg r.row] w fun e w' => e = .returned (.bool true) ∧ Below w.heap.size w w' :=
  (impl_same r r hr hr w).mono fun e w' ⟨q, h1, h2, h3⟩ => ⟨by rw [h1, h2.2 (same_selfO r)], h3⟩

set_option maxRecDepth 100000 in
set_option maxHeartbeats 800000 in
theorem draw_kof (v : Value) (w : World) (C : CodeAt v w) :
    Calls Tryd.prog 9 #[v] w fun e w' => ∃ m : MemV, m.Ok ∧ e = .returned (.agg m.row) ∧ Below w.heap.size w w' := by
  have B0 : Below w.heap.size w (w.alloc (.cells mem0.row 37)) := (Below.refl _ _).alloc (Nat.le_refl _) _
  have M0 := MemAt.alloc mem0 w 37
  have H0 : Hid (CodeAt v (w.alloc (.cells mem0.row 37)) ∧ Below w.heap.size w (w.alloc (.cells mem0.row 37)) ∧ MemAt w.heap.size mem0 (w.alloc (.cells mem0.row 37))) := ⟨C.below B0, B0, M0⟩
  clear C B0 M0
  go_enter Tryd.func9, Tryd.ntmps9
  go_upto_region 1 with fail
  generalize w.alloc (.cells mem0.row 37) = w1 at H0 ⊢
  go_wp2_with fail
  refine (open_any v w1 H0.out.1).mono ?_
  rintro e w2 ⟨rfl, rd2, b2⟩
  have H2 : Hid (Rd w1.heap.size 0 w2 ∧ Below w1.heap.size w1 w2) := ⟨rd2, b2⟩
  clear rd2 b2
  go_wp2_with fail
  refine (draw_mem w1.heap.size 0 w2 H2.out.1 (by omega)).mono ?_
  rintro e w3 ⟨m, hm, rfl, rd3, mv3⟩
  have b3 : Below w1.heap.size w2 w3 := mv3.below H2.out.2.size (Nat.le_refl _)
  have b13 := H2.out.2.trans b3
  have M3 := H0.out.2.2.below b13 H0.out.2.2.z
  have L1 := store_mem m M3
  have HF : Hid (MemAt w.heap.size m _ ∧ Below w.heap.size w _) := ⟨M3.stored m, setCells_below m.row.toList w.heap.size 0 (H0.out.2.1.trans (b13.mono H0.out.2.1.size)) (Nat.le_refl _)⟩
  clear b3 b13 M3 rd3 mv3 H2 H0
  go_wp2_with (refine list_store (t := 37) (x := .pointer (some ⟨w.heap.size, 0, none⟩)) (u := .agg m.row) rfl rfl rfl rfl L1 ?_)
  exact ret_mem (c := 2) rfl rfl rfl HF.out.1 ⟨m, hm, rfl, HF.out.2⟩

theorem load_argO {b : Nat} {x y z : Value} {w : World} (h0 : w.cell? ⟨b, 0, none⟩ = some x) (h1 : w.cell? ⟨b, 1, none⟩ = some y) (h2 : w.cell? ⟨b, 2, none⟩ = some z) :
    (Instr.loadAt 42 (.pointer (some ⟨b, 0, none⟩))).run Tryd.prog w = .ok (.agg #[x, y, z]) w := by
  have ha : (isAgg 42).run Tryd.prog w = .ok true w := by kernel_rfl
  have hs : (sizeOf 42).run Tryd.prog w = .ok 3 w := by kernel_rfl
  have hl : (loadCells ⟨b, 0, none⟩ 3).run Tryd.prog w = .ok #[x, y, z] w := run_loadCells (P := Tryd.prog) (w := w) ⟨b, 0, none⟩ 3 (fun i => if i = 0 then x else if i = 1 then y else z) (fun j hj => by
    have hj : j = 0 ∨ j = 1 ∨ j = 2 := by omega
    rcases hj with rfl | rfl | rfl
    · simpa [Addr.add] using h0
    · simpa [Addr.add] using h1
    · simpa [Addr.add] using h2)
  simp only [Instr.loadAt, Instr.sureAddr, Sem.run_bind, Sem.run_pure, Result.andThen, loadVar, ha, hs, if_true, hl]

theorem at3 {i : Nat} (h : i < 64) : (atZ 3 i).toNat = i := by
  have : atZ 3 (i : Int) = (i : Int) % 64 := rfl
  rw [this]
  omega
theorem at2 {i : Nat} (h : i < 32) : (atZ 2 i).toNat = i := by
  have : atZ 2 (i : Int) = (i : Int) % 32 := rfl
  rw [this]
  omega
theorem at9 {i : Nat} (h : i < 32) : (atZ 9 i).toNat = i := by
  have : atZ 9 (i : Int) = (i : Int) % 32 := rfl
  rw [this]
  omega

theorem bit_high (m : MemV) {i : Nat} (h : i < 64) (h2 : 32 ≤ i) : mbit (keptV m) 3 i = mbit m 3 i := by
  have e1 : mbit (keptV m) 3 i = (m.m / 4294967296 * 4294967296 / 2 ^ (atZ 3 i).toNat % 2 == 1) := by unfold mbit; rw [if_neg (by decide), if_neg (by decide), if_pos rfl, kept_m]
  have e2 : mbit m 3 i = (m.m / 2 ^ (atZ 3 i).toNat % 2 == 1) := by unfold mbit; rw [if_neg (by decide), if_neg (by decide), if_pos rfl]
  rw [e1, e2, at3 h]
  obtain ⟨j, rfl⟩ : ∃ j, i = 32 + j := ⟨i - 32, by omega⟩
  have p0 : (2 : Nat) ^ 32 = 4294967296 := by decide
  have p : 2 ^ (32 + j) = 4294967296 * 2 ^ j := by rw [Nat.pow_add, p0]
  rw [p, ← Nat.div_div_eq_div_mul, ← Nat.div_div_eq_div_mul, Nat.mul_div_cancel _ (by decide)]
theorem bit_low (m : MemV) {i : Nat} (h2 : i < 32) : mbit (keptV m) 3 i = false := by
  have e1 : mbit (keptV m) 3 i = (m.m / 4294967296 * 4294967296 / 2 ^ (atZ 3 i).toNat % 2 == 1) := by unfold mbit; rw [if_neg (by decide), if_neg (by decide), if_pos rfl, kept_m]
  rw [e1, at3 (by omega)]
  have p0 : (2 : Nat) ^ 32 = 4294967296 := by decide
  have p : 4294967296 = 2 ^ i * 2 ^ (32 - i) := by rw [← Nat.pow_add, show i + (32 - i) = 32 by omega, p0]
  have q : (2 : Nat) ^ (32 - i) = 2 * 2 ^ (31 - i) := by rw [show 32 - i = 31 - i + 1 by omega, Nat.pow_succ, Nat.mul_comm]
  have e : m.m / 4294967296 * 4294967296 / 2 ^ i = 2 * (m.m / 4294967296 * 2 ^ (31 - i)) := by
    generalize m.m / 4294967296 = z
    rw [p, q, show z * (2 ^ i * (2 * 2 ^ (31 - i))) = 2 ^ i * (2 * (z * 2 ^ (31 - i))) by
      rw [Nat.mul_left_comm z, Nat.mul_left_comm z], Nat.mul_div_cancel_left _ (Nat.two_pow_pos i)]
  rw [e]
  simp
theorem bit_out (m : MemV) {n : Nat} (_h : n < 32) : mbit (keptV m) 2 n = false := by
  have e1 : mbit (keptV m) 2 n = (0 / 2 ^ (atZ 2 n).toNat % 2 == 1) := rfl
  rw [e1]
  simp
theorem whole_low (m : MemV) {n : Nat} (h : n < 16) : wholeZ (keptV m) 9 n = 0 := by
  have e1 : wholeZ (keptV m) 9 n = (keptV m).d (atZ 9 n).toNat := rfl
  rw [e1, at9 (by omega), kept_d, if_pos h]
theorem whole_high (m : MemV) {n : Nat} (h : n < 32) (h2 : 16 ≤ n) : wholeZ (keptV m) 9 n = wholeZ m 9 n := by
  have e1 : wholeZ (keptV m) 9 n = (keptV m).d (atZ 9 n).toNat := rfl
  have e2 : wholeZ m 9 n = m.d (atZ 9 n).toNat := rfl
  rw [e1, e2, at9 h, kept_d, if_neg (by omega)]

theorem cell_last {w : World} {c : Array Value} {t : TypeId} {k s : Nat} {u : Value} (hs : s = w.heap.size) (h : c[k]? = some u) : (w.alloc (.cells c t)).cell? ⟨s, k, none⟩ = some u := by
  subst hs
  simp [h]

theorem cell_past {w : World} {o : Obj} {b k : Nat} {u : Value} (hb : b < w.heap.size) (h : w.cell? ⟨b, k, none⟩ = some u) : (w.alloc o).cell? ⟨b, k, none⟩ = some u := (((Below.refl w.heap.size w).alloc (Nat.le_refl _) o).cell (p := ⟨b, k, none⟩) hb).trans h

/-- Three operands in boxes of their own. -/
theorem boxesO (i n : Nat) (wr w' : World) (t : TypeId) (hb : Below (((wr.alloc (.cells #[.int .i64 3, .int .i64 i, .int .i64 0] t)).alloc (.cells #[.int .i64 9, .int .i64 n, .int .i64 0] t)).alloc (.cells #[.int .i64 2, .int .i64 n, .int .i64 0] t)).heap.size (((wr.alloc (.cells #[.int .i64 3, .int .i64 i, .int .i64 0] t)).alloc (.cells #[.int .i64 9, .int .i64 n, .int .i64 0] t)).alloc (.cells #[.int .i64 2, .int .i64 n, .int .i64 0] t)) w') :
    (Instr.loadAt 42 (.pointer (some ⟨wr.heap.size, 0, none⟩))).run Tryd.prog w' = .ok (.agg #[.int .i64 3, .int .i64 i, .int .i64 0]) w' ∧
    (Instr.loadAt 42 (.pointer (some ⟨wr.heap.size + 1, 0, none⟩))).run Tryd.prog w' = .ok (.agg #[.int .i64 9, .int .i64 n, .int .i64 0]) w' ∧
    (Instr.loadAt 42 (.pointer (some ⟨wr.heap.size + 1 + 1, 0, none⟩))).run Tryd.prog w' = .ok (.agg #[.int .i64 2, .int .i64 n, .int .i64 0]) w' := by
  have H : ∀ (b k : Nat) (u : Value), b < wr.heap.size + 3 → (((wr.alloc (.cells #[.int .i64 3, .int .i64 i, .int .i64 0] t)).alloc (.cells #[.int .i64 9, .int .i64 n, .int .i64 0] t)).alloc (.cells #[.int .i64 2, .int .i64 n, .int .i64 0] t)).cell? ⟨b, k, none⟩ = some u → w'.cell? ⟨b, k, none⟩ = some u := fun b k u h1 h2 => (hb.cell (p := ⟨b, k, none⟩) (by show b < _; simp; omega)).trans h2
  exact ⟨load_argO (H _ _ _ (by omega) (cell_past (by simp; omega) (cell_past (by simp) (cell_last rfl rfl)))) (H _ _ _ (by omega) (cell_past (by simp; omega) (cell_past (by simp) (cell_last rfl rfl)))) (H _ _ _ (by omega) (cell_past (by simp; omega) (cell_past (by simp) (cell_last rfl rfl)))), load_argO (H _ _ _ (by omega) (cell_past (by simp) (cell_last (by simp) rfl))) (H _ _ _ (by omega) (cell_past (by simp) (cell_last (by simp) rfl))) (H _ _ _ (by omega) (cell_past (by simp) (cell_last (by simp) rfl))), load_argO (H _ _ _ (by omega) (cell_last (by simp) rfl)) (H _ _ _ (by omega) (cell_last (by simp) rfl)) (H _ _ _ (by omega) (cell_last (by simp) rfl))⟩

/-- What stands while the law asks. -/
structure Base (m r : MemV) (q3 q4 : Nat) (w wr : World) : Prop where
  m : MemAt q3 m wr
  k : MemAt q4 r wr
  b : Below w.heap.size w wr

theorem Base.more {m r : MemV} {q3 q4 : Nat} {w wr w' : World} (h : Base m r q3 q4 w wr) (hb : Below wr.heap.size wr w') : Base m r q3 q4 w w' :=
  ⟨h.m.below hb h.m.z, h.k.below hb h.k.z, h.b.trans (hb.mono h.b.size)⟩

theorem eqT (D : Nat → Bool) (C : Nat → Nat) (v : MemV) (hD : v.tD = D) (hC : v.tC = C) (w : World) : (binOp .eql 28 (.agg (rowOf (fTimer D C) 32)) (.agg (rowOf (fTimer D C) 32))).run Tryd.prog w = .ok (.bool true) w := by
  subst hD hC
  obtain ⟨b, h1, h2⟩ := eq_timers 9997 v v w
  have e : rowOf (fun j => v.cell (5 + j)) 32 = rowOf (fTimer v.tD v.tC) 32 := rowOf_congr fun k hk => cell_timer hk
  rw [e] at h1
  rw [run_eql_struct, h1, h2.2 fun _ _ => rfl]
  rfl
theorem eqC (D L : Nat → Bool) (C : Nat → Nat) (v : MemV) (hD : v.cD = D) (hL : v.cL = L) (hC : v.cC = C) (w : World) : (binOp .eql 31 (.agg (rowOf (fCounter D L C) 48)) (.agg (rowOf (fCounter D L C) 48))).run Tryd.prog w = .ok (.bool true) w := by
  subst hD hL hC
  obtain ⟨b, h1, h2⟩ := eq_counters 9997 v v w
  have e : rowOf (fun j => v.cell (37 + j)) 48 = rowOf (fCounter v.cD v.cL v.cC) 48 := rowOf_congr fun k hk => cell_counter hk
  rw [e] at h1
  rw [run_eql_struct, h1, h2.2 fun _ _ => rfl]
  rfl

end Go.Proofs.YtdhoimjkgicneabDoor

/- The law that what is kept of a memory is kept, walked. -/
namespace Go.Proofs.YtdhoimjkgicneabDoor
open Go Go.RowKit

attribute [local go_sem] zMemK

set_option maxHeartbeats 400000 in
theorem law_long (a0 : Option Addr) (l0 c0 : Nat) (w : World) (h : 1048576 < l0) (m0 : l0 ≤ 9223372036854775807) :
    Calls Tryd.prog 3 #[.slice a0 l0 c0] w fun e w' => e = .returned (.bool true) ∧ Below w.heap.size w w' := by
  go_enter Tryd.func3, Tryd.ntmps3
  go_wp2
  go_ret
  exact ⟨rfl, Below.refl _ _⟩

set_option maxRecDepth 100000 in
set_option maxHeartbeats 16000000 in
theorem law_short (a0 : Option Addr) (l0 c0 : Nat) (w : World) (T : KTab w) (h0 : l0 ≤ 1048576) (C0 : CodeAt (.slice a0 l0 c0) w) :
    Calls Tryd.prog 3 #[.slice a0 l0 c0] w fun e w' => e = .returned (.bool true) ∧ Below w.heap.size w w' := by
  have HC : Hid (CodeAt (.slice a0 l0 c0) w) := C0
  clear C0
  go_enter Tryd.func3, Tryd.ntmps3
  go_wp2_with fail
  refine (draw_kof _ w HC.out).mono ?_
  rintro e w1 ⟨m, hm, rfl, b1⟩
  obtain ⟨m0, m1, b2⟩ := fresh_putO m w1
  have b12 := b1.trans (b2.mono b1.size)
  have H1 : Hid (MemAt w1.heap.size m _ ∧ Below w.heap.size w _) := ⟨m1, b12⟩
  have L1 := store_mem m m0
  have L2 := load_mem m1
  generalize (w1.alloc (.cells mem0.row 37)).setCells w1.heap.size 0 m.row.toList = w2 at H1 L1 L2
  clear m0 m1 b1 b2 b12 HC
  go_upto_region 4 with (refine list_store (t := 37) (x := .pointer (some ⟨w1.heap.size, 0, none⟩)) (u := .agg m.row) rfl rfl rfl rfl L1 ?_)
  try simp only [Act.put]
  clear L1
  generalize w1.heap.size = q3 at H1 L2 ⊢
  have IK := fun w' => impl_kept m w' hm
  have SK := fun w' => spec_kept m w' hm
  have IR := fun w' => impl_kept (keptV m) w' (keptV_ok hm)
  rw [keptV_twice] at IR
  have rok := keptV_ok hm
  obtain ⟨r, hr⟩ : ∃ r, r = keptV m := ⟨_, rfl⟩
  rw [← hr] at IK SK IR rok
  have HK : Hid (r = keptV m) := hr
  clear hr
  go_wp2_with (refine list_load (t := 37) (x := .pointer (some ⟨q3, 0, none⟩)) (u := .agg m.row) rfl rfl rfl L2 ?_)
  clear L2
  refine (IK w2).mono ?_
  rintro e w3 ⟨rfl, b3⟩
  obtain ⟨m0, m1, b4⟩ := fresh_putO r w3
  have b34 := b3.trans (b4.mono b3.size)
  have HB : Hid (Base m r q3 w3.heap.size w _) := ⟨H1.out.1.below b34 H1.out.1.z, m1, H1.out.2.trans (b34.mono H1.out.2.size)⟩
  have L1 := store_mem r m0
  generalize (w3.alloc (.cells mem0.row 37)).setCells w3.heap.size 0 r.row.toList = w5 at HB L1
  clear m0 m1 b3 b4 b34 H1 IK
  go_upto_region 5 with (refine list_store (t := 37) (x := .pointer (some ⟨w3.heap.size, 0, none⟩)) (u := .agg r.row) rfl rfl rfl rfl L1 ?_)
  try simp only [Act.put]
  clear L1
  generalize w3.heap.size = q4 at HB ⊢
  refine wp_region_belowM (by kernel_rfl) (by kernel_rfl) ?_
  refine quiet_load (t := 37) (v := .agg r.row) rfl rfl rfl (fun w' hw' => load_mem (HB.out.more hw').k) ?_
  go_simp
  refine quiet_load (t := 37) (v := .agg m.row) rfl rfl rfl (fun w' hw' => load_mem (HB.out.more hw').m) ?_
  go_simp
  refine wpQuiet_step (fun K hK => ?_)
  go_simp
  refine ⟨.agg r.row, fun w' hw' => (SK w').mono fun e w'' ⟨he, hb⟩ => ⟨he, hw'.trans (hb.mono hw'.size)⟩, hK _ ?_⟩
  clear hK K
  refine wpQuiet_step (fun K hK => ?_)
  go_simp
  refine ⟨.bool true, fun w' hw' => (same_callO r rok w').mono fun e w'' ⟨he, hb⟩ => ⟨he, hw'.trans (hb.mono hw'.size)⟩, hK _ ?_⟩
  clear hK K
  quiet_step (exact fun _ => rfl)
  quiet_step (exact fun _ => rfl)
  refine quiet_load (t := 37) (v := .agg r.row) rfl rfl rfl (fun w' hw' => load_mem (HB.out.more hw').k) ?_
  go_simp
  refine wpQuiet_step (fun K hK => ?_)
  go_simp
  refine ⟨.agg r.row, fun w' hw' => (IR w').mono fun e w'' ⟨he, hb⟩ => ⟨he, hw'.trans (hb.mono hw'.size)⟩, hK _ ?_⟩
  clear hK K
  refine quiet_load (t := 37) (v := .agg r.row) rfl rfl rfl (fun w' hw' => load_mem (HB.out.more hw').k) ?_
  go_simp
  refine wpQuiet_step (fun K hK => ?_)
  go_simp
  refine ⟨.bool true, fun w' hw' => (same_callO r rok w').mono fun e w'' ⟨he, hb⟩ => ⟨he, hw'.trans (hb.mono hw'.size)⟩, hK _ ?_⟩
  clear hK K
  quiet_step (exact fun _ => rfl)
  quiet_step (exact fun _ => rfl)
  refine wpQuiet_nil ?_
  intro w6 hw6
  have HB6 : Hid (Base m r q3 q4 w w6) := HB.out.more hw6
  clear hw6 HB SK IR
  go_wp2_with fail
  go_loopw [5] (fun iv wr => ∃ i : Nat, i ≤ 64 ∧ iv = .int .i64 i ∧ Base m r q3 q4 w wr) (fun iv _ => 64 - (intOf iv).toNat)
  case atStart => exact ⟨0, by omega, rfl, HB6.out⟩
  case round =>
    clear HB6
    obtain ⟨i, hi, rfl, B⟩ := hrel
    by_cases hlt : i < 64
    · have hlt' : (i : Int) < 64 := by omega
      obtain ⟨n, hn, hn2, n1, n2⟩ : ∃ n : Nat, (i : Int) % 32 = (n : Int) ∧ Int.tmod (i : Int) 32 = (n : Int) ∧ n < 32 ∧ n = i % 32 := ⟨i % 32, by omega, by rw [Int.tmod_eq_emod_of_nonneg (by omega)]; omega, by omega, rfl⟩
      have HN : Hid (n = i % 32) := n2
      clear n2
      have B1 : Below wr.heap.size wr (((wr.alloc (.cells #[.int .i64 3, .int .i64 i, .int .i64 0] 42)).alloc (.cells #[.int .i64 9, .int .i64 n, .int .i64 0] 42)).alloc (.cells #[.int .i64 2, .int .i64 n, .int .i64 0] 42)) := (((Below.refl wr.heap.size wr).alloc (Nat.le_refl _) _).alloc (by simp) _).alloc (by simp; omega) _
      have HB : Hid (Base m r q3 q4 w (((wr.alloc (.cells #[.int .i64 3, .int .i64 i, .int .i64 0] 42)).alloc (.cells #[.int .i64 9, .int .i64 n, .int .i64 0] 42)).alloc (.cells #[.int .i64 2, .int .i64 n, .int .i64 0] 42))) := B.more B1
      clear B B1
      have LA := fun w' hw' => (boxesO i n wr w' 42 hw').1
      have LD := fun w' hw' => (boxesO i n wr w' 42 hw').2.1
      have LE := fun w' hw' => (boxesO i n wr w' 42 hw').2.2
      go_upto_region 13 with fail
      generalize (((wr.alloc (.cells #[.int .i64 3, .int .i64 i, .int .i64 0] 42)).alloc (.cells #[.int .i64 9, .int .i64 n, .int .i64 0] 42)).alloc (.cells #[.int .i64 2, .int .i64 n, .int .i64 0] 42)) = W at HB LA LD LE ⊢
      have LK : ∀ w', Below W.heap.size W w' → (Instr.loadAt 37 (.pointer (some ⟨q4, 0, none⟩))).run Tryd.prog w' = .ok (.agg r.row) w' := fun w' hw' => load_mem (HB.out.more hw').k
      have LM : ∀ w', Below W.heap.size W w' → (Instr.loadAt 37 (.pointer (some ⟨q3, 0, none⟩))).run Tryd.prog w' = .ok (.agg m.row) w' := fun w' hw' => load_mem (HB.out.more hw').m
      have TT : ∀ w', Below W.heap.size W w' → KTab w' := fun w' hw' => T.below (HB.out.more hw').b (Nat.le_refl _)
      have Cky : ∀ w', Below W.heap.size W w' → Calls Tryd.prog 13 #[.agg r.row, .agg #[.int .i64 2, .int .i64 n, .int .i64 0]] w' fun e w'' => e = .returned (.bool false) ∧ Below w'.heap.size w' w'' := fun w' hw' => by
        have h := impl_membit r 2 n 0 w' rok (TT w' hw')
        have e : mbit r 2 n = false := by rw [HK.out]; exact bit_out m n1
        rw [e] at h
        exact h
      obtain ⟨mb, hmb⟩ : ∃ mb, mbit m 3 i = mb := ⟨_, rfl⟩
      have Cma : ∀ w', Below W.heap.size W w' → Calls Tryd.prog 13 #[.agg m.row, .agg #[.int .i64 3, .int .i64 i, .int .i64 0]] w' fun e w'' => e = .returned (.bool mb) ∧ Below w'.heap.size w' w'' := fun w' hw' => by
        have h := impl_membit m 3 i 0 w' hm (TT w' hw')
        rw [hmb] at h
        exact h
      obtain ⟨dz, hdz⟩ : ∃ dz, wholeZ m 9 n = dz := ⟨_, rfl⟩
      have Cmd : ∀ w', Below W.heap.size W w' → Calls Tryd.prog 14 #[.agg m.row, .agg #[.int .i64 9, .int .i64 n, .int .i64 0]] w' fun e w'' => e = .returned (.int .i16 dz) ∧ Below w'.heap.size w' w'' := fun w' hw' => by
        have h := impl_memwhole m 9 n 0 w' hm (TT w' hw')
        rw [hdz] at h
        exact h
      have CB := fun w' hw' => impl_membit r 3 i 0 w' rok (TT w' hw')
      have CW := fun w' hw' => impl_memwhole r 9 n 0 w' rok (TT w' hw')
      have GB : Hid (32 ≤ i → mbit r 3 i = mb) := fun h => by rw [HK.out, bit_high m hlt h, hmb]
      have GL : Hid (i < 32 → mbit r 3 i = false) := fun h => by rw [HK.out, bit_low m h]
      have GW : Hid (16 ≤ n → wholeZ r 9 n = dz) := fun h => by rw [HK.out, whole_high m n1 h, hdz]
      have GZ : Hid (n < 16 → wholeZ r 9 n = 0) := fun h => by rw [HK.out, whole_low m h]
      have hS : Below W.heap.size W W.drew := (Below.refl _ _).drew
      clear hmb hdz TT HN
      by_cases g : 32 ≤ i
      · have g' : (32 : Int) ≤ (i : Int) := by omega
        have Cka : ∀ w', Below W.heap.size W w' → Calls Tryd.prog 13 #[.agg r.row, .agg #[.int .i64 3, .int .i64 i, .int .i64 0]] w' fun e w'' => e = .returned (.bool mb) ∧ Below w'.heap.size w' w'' := fun w' hw' => by
            have h := CB w' hw'
            rw [GB.out g] at h
            exact h
        clear CB
        by_cases l : n < 16
        · have l' : (n : Int) < 16 := by omega
          have l2 : ¬ (16 : Int) ≤ (n : Int) := by omega
          have Ckd : ∀ w', Below W.heap.size W w' → Calls Tryd.prog 14 #[.agg r.row, .agg #[.int .i64 9, .int .i64 n, .int .i64 0]] w' fun e w'' => e = .returned (.int .i16 0) ∧ Below w'.heap.size w' w'' := fun w' hw' => by
            have h := CW w' hw'
            rw [GZ.out l] at h
            exact h
          clear CW
          refine wp_region_held (S := Below W.heap.size W) (by kernel_rfl) ?_
          refine held_load (fuel := 40) (i := 0) (t := 37) (v := .agg r.row) rfl rfl rfl (by kernel_rfl) (by kernel_rfl) (by kernel_rfl) rfl (fun _ _ _ h => h) (fun w' hw' => LK w' hw') hS ?_
          go_simp
          refine held_load (fuel := 39) (i := 1) (t := 42) (v := .agg #[.int .i64 3, .int .i64 i, .int .i64 0]) rfl rfl rfl (by kernel_rfl) (by kernel_rfl) (by kernel_rfl) rfl (fun _ _ _ h => h) (fun w' hw' => LA w' hw') hS ?_
          go_simp
          refine held_any (fuel := 38) (i := 3) (v := .int .i64 i) rfl (by kernel_rfl) (by kernel_rfl) (by kernel_rfl) rfl (fun _ _ _ h => h) (fun _ _ => rfl) hS ?_
          go_simp
          refine held_any (fuel := 37) (i := 4) (v := .bool true) rfl (by kernel_rfl) (by kernel_rfl) (by kernel_rfl) rfl (fun _ _ _ h => h) (fun _ _ => by go_simp) hS ?_
          go_simp
          refine wpAnyH_ready (rs := [2]) (by kernel_rfl) (by simp) ?_
          refine AllReadyH.cons rfl (fun K hK => ?_) AllReadyH.nil
          go_simp
          refine (Cka _ hS).mono ?_
          rintro e x0 ⟨rfl, bx0⟩
          have hT0 := hS.trans (bx0.mono hS.size)
          refine hK.out _ _ hT0 (fun _ => ?_)
          clear hK K bx0
          go_simp
          refine held_any (fuel := 35) (i := 5) (v := .bool true) rfl (by kernel_rfl) (by kernel_rfl) (by kernel_rfl) rfl (fun _ _ _ h => h) (fun _ _ => rfl) hT0 ?_
          go_simp
          refine held_load (fuel := 34) (i := 6) (t := 37) (v := .agg m.row) rfl rfl rfl (by kernel_rfl) (by kernel_rfl) (by kernel_rfl) rfl (fun _ _ _ h => h) (fun w' hw' => LM w' hw') hT0 ?_
          go_simp
          refine held_load (fuel := 33) (i := 7) (t := 42) (v := .agg #[.int .i64 3, .int .i64 i, .int .i64 0]) rfl rfl rfl (by kernel_rfl) (by kernel_rfl) (by kernel_rfl) rfl (fun _ _ _ h => h) (fun w' hw' => LA w' hw') hT0 ?_
          go_simp
          refine wpAnyH_ready (rs := [8]) (by kernel_rfl) (by simp) ?_
          refine AllReadyH.cons rfl (fun K hK => ?_) AllReadyH.nil
          go_simp
          refine (Cma _ hT0).mono ?_
          rintro e x1 ⟨rfl, bx1⟩
          have hT1 := hT0.trans (bx1.mono hT0.size)
          refine hK.out _ _ hT1 (fun _ => ?_)
          clear hK K bx1
          go_simp
          refine held_any (fuel := 31) (i := 9) (v := .bool mb) rfl (by kernel_rfl) (by kernel_rfl) (by kernel_rfl) rfl (fun _ _ _ h => h) (fun _ _ => rfl) hT1 ?_
          go_simp
          refine held_any (fuel := 30) (i := 10) (v := .bool false) rfl (by kernel_rfl) (by kernel_rfl) (by kernel_rfl) rfl (fun _ _ _ h => h) (fun _ _ => by go_simp) hT1 ?_
          go_simp
          refine held_any (fuel := 29) (i := 11) (v := .bool false) rfl (by kernel_rfl) (by kernel_rfl) (by kernel_rfl) rfl (fun _ _ _ h => h) (fun _ _ => rfl) hT1 ?_
          go_simp
          refine held_load (fuel := 28) (i := 12) (t := 37) (v := .agg r.row) rfl rfl rfl (by kernel_rfl) (by kernel_rfl) (by kernel_rfl) rfl (fun _ _ _ h => h) (fun w' hw' => LK w' hw') hT1 ?_
          go_simp
          refine held_load (fuel := 27) (i := 13) (t := 42) (v := .agg #[.int .i64 2, .int .i64 n, .int .i64 0]) rfl rfl rfl (by kernel_rfl) (by kernel_rfl) (by kernel_rfl) rfl (fun _ _ _ h => h) (fun w' hw' => LE w' hw') hT1 ?_
          go_simp
          refine wpAnyH_ready (rs := [14]) (by kernel_rfl) (by simp) ?_
          refine AllReadyH.cons rfl (fun K hK => ?_) AllReadyH.nil
          go_simp
          refine (Cky _ hT1).mono ?_
          rintro e x2 ⟨rfl, bx2⟩
          have hT2 := hT1.trans (bx2.mono hT1.size)
          refine hK.out _ _ hT2 (fun _ => ?_)
          clear hK K bx2
          go_simp
          refine held_any (fuel := 25) (i := 15) (v := .bool false) rfl (by kernel_rfl) (by kernel_rfl) (by kernel_rfl) rfl (fun _ _ _ h => h) (fun _ _ => rfl) hT2 ?_
          go_simp
          refine held_any (fuel := 24) (i := 16) (v := .bool false) rfl (by kernel_rfl) (by kernel_rfl) (by kernel_rfl) rfl (fun _ _ _ h => h) (fun _ _ => rfl) hT2 ?_
          go_simp
          refine held_any (fuel := 23) (i := 17) (v := .int .i64 i) rfl (by kernel_rfl) (by kernel_rfl) (by kernel_rfl) rfl (fun _ _ _ h => h) (fun _ _ => rfl) hT2 ?_
          go_simp
          refine held_any (fuel := 22) (i := 18) (v := .int .i64 n) rfl (by kernel_rfl) (by kernel_rfl) (by kernel_rfl) rfl (fun _ _ _ h => h) (fun _ _ => by go_simp) hT2 ?_
          go_simp
          refine held_any (fuel := 21) (i := 19) (v := .bool true) rfl (by kernel_rfl) (by kernel_rfl) (by kernel_rfl) rfl (fun _ _ _ h => h) (fun _ _ => by go_simp) hT2 ?_
          go_simp
          refine held_any (fuel := 20) (i := 20) (v := .bool true) rfl (by kernel_rfl) (by kernel_rfl) (by kernel_rfl) rfl (fun _ _ _ h => h) (fun _ _ => rfl) hT2 ?_
          go_simp
          refine held_load (fuel := 19) (i := 21) (t := 37) (v := .agg r.row) rfl rfl rfl (by kernel_rfl) (by kernel_rfl) (by kernel_rfl) rfl (fun _ _ _ h => h) (fun w' hw' => LK w' hw') hT2 ?_
          go_simp
          refine held_load (fuel := 18) (i := 22) (t := 42) (v := .agg #[.int .i64 9, .int .i64 n, .int .i64 0]) rfl rfl rfl (by kernel_rfl) (by kernel_rfl) (by kernel_rfl) rfl (fun _ _ _ h => h) (fun w' hw' => LD w' hw') hT2 ?_
          go_simp
          refine wpAnyH_ready (rs := [23]) (by kernel_rfl) (by simp) ?_
          refine AllReadyH.cons rfl (fun K hK => ?_) AllReadyH.nil
          go_simp
          refine (Ckd _ hT2).mono ?_
          rintro e x3 ⟨rfl, bx3⟩
          have hT3 := hT2.trans (bx3.mono hT2.size)
          refine hK.out _ _ hT3 (fun _ => ?_)
          clear hK K bx3
          go_simp
          refine held_any (fuel := 16) (i := 24) (v := .bool false) rfl (by kernel_rfl) (by kernel_rfl) (by kernel_rfl) rfl (fun _ _ _ h => h) (fun _ _ => by go_simp) hT3 ?_
          go_simp
          refine held_any (fuel := 15) (i := 25) (v := .bool false) rfl (by kernel_rfl) (by kernel_rfl) (by kernel_rfl) rfl (fun _ _ _ h => h) (fun _ _ => rfl) hT3 ?_
          go_simp
          refine held_any (fuel := 14) (i := 26) (v := .bool false) rfl (by kernel_rfl) (by kernel_rfl) (by kernel_rfl) rfl (fun _ _ _ h => h) (fun _ _ => rfl) hT3 ?_
          go_simp
          refine held_any (fuel := 13) (i := 27) (v := .bool false) rfl (by kernel_rfl) (by kernel_rfl) (by kernel_rfl) rfl (fun _ _ _ h => h) (fun _ _ => rfl) hT3 ?_
          go_simp
          refine held_any (fuel := 12) (i := 28) (v := .int .i64 i) rfl (by kernel_rfl) (by kernel_rfl) (by kernel_rfl) rfl (fun _ _ _ h => h) (fun _ _ => rfl) hT3 ?_
          go_simp
          refine held_any (fuel := 11) (i := 29) (v := .int .i64 n) rfl (by kernel_rfl) (by kernel_rfl) (by kernel_rfl) rfl (fun _ _ _ h => h) (fun _ _ => by go_simp) hT3 ?_
          go_simp
          refine held_any (fuel := 10) (i := 30) (v := .bool false) rfl (by kernel_rfl) (by kernel_rfl) (by kernel_rfl) rfl (fun _ _ _ h => h) (fun _ _ => by go_simp) hT3 ?_
          go_simp
          refine held_any (fuel := 9) (i := 31) (v := .bool false) rfl (by kernel_rfl) (by kernel_rfl) (by kernel_rfl) rfl (fun _ _ _ h => h) (fun _ _ => rfl) hT3 ?_
          go_simp
          refine kheld_skip (fuel := 8) (i := 32) rfl (by kernel_rfl) (by kernel_rfl) (by kernel_rfl) rfl (fun _ _ _ h => h) hT3 ?_
          go_simp
          refine kheld_skip (fuel := 7) (i := 33) rfl (by kernel_rfl) (by kernel_rfl) (by kernel_rfl) rfl (fun _ _ _ h => h) hT3 ?_
          go_simp
          refine kheld_skip (fuel := 6) (i := 34) rfl (by kernel_rfl) (by kernel_rfl) (by kernel_rfl) rfl (fun _ _ _ h => h) hT3 ?_
          go_simp
          refine kheld_skip (fuel := 5) (i := 35) rfl (by kernel_rfl) (by kernel_rfl) (by kernel_rfl) rfl (fun _ _ _ h => h) hT3 ?_
          go_simp
          refine kheld_skip (fuel := 4) (i := 36) rfl (by kernel_rfl) (by kernel_rfl) (by kernel_rfl) rfl (fun _ _ _ h => h) hT3 ?_
          go_simp
          refine kheld_skip (fuel := 3) (i := 37) rfl (by kernel_rfl) (by kernel_rfl) (by kernel_rfl) rfl (fun _ _ _ h => h) hT3 ?_
          go_simp
          refine kheld_skip (fuel := 2) (i := 38) rfl (by kernel_rfl) (by kernel_rfl) (by kernel_rfl) rfl (fun _ _ _ h => h) hT3 ?_
          go_simp
          refine held_any (fuel := 1) (i := 39) (v := .bool false) rfl (by kernel_rfl) (by kernel_rfl) (by kernel_rfl) rfl (fun _ _ _ h => h) (fun _ _ => rfl) hT3 ?_
          go_simp
          refine held_any (fuel := 0) (i := 40) (v := .bool false) rfl (by kernel_rfl) (by kernel_rfl) (by kernel_rfl) rfl (fun _ _ _ h => h) (fun _ _ => rfl) hT3 ?_
          go_simp
          refine wpAnyH_done (by kernel_rfl) ?_ _
          have HX : Hid (Base m r q3 q4 w _) := HB.out.more hT3
          clear hS hT0 hT1 hT2 hT3
          go_wp2_with fail
          go_roundw
          case rel => exact ⟨i + 1, by omega, by go_num, HX.out⟩
          case measure => simp [intOf]; omega
        · have l' : ¬ (n : Int) < 16 := by omega
          have l2 : (16 : Int) ≤ (n : Int) := by omega
          have Ckd : ∀ w', Below W.heap.size W w' → Calls Tryd.prog 14 #[.agg r.row, .agg #[.int .i64 9, .int .i64 n, .int .i64 0]] w' fun e w'' => e = .returned (.int .i16 dz) ∧ Below w'.heap.size w' w'' := fun w' hw' => by
            have h := CW w' hw'
            rw [GW.out (by omega)] at h
            exact h
          clear CW
          refine wp_region_held (S := Below W.heap.size W) (by kernel_rfl) ?_
          refine held_load (fuel := 40) (i := 0) (t := 37) (v := .agg r.row) rfl rfl rfl (by kernel_rfl) (by kernel_rfl) (by kernel_rfl) rfl (fun _ _ _ h => h) (fun w' hw' => LK w' hw') hS ?_
          go_simp
          refine held_load (fuel := 39) (i := 1) (t := 42) (v := .agg #[.int .i64 3, .int .i64 i, .int .i64 0]) rfl rfl rfl (by kernel_rfl) (by kernel_rfl) (by kernel_rfl) rfl (fun _ _ _ h => h) (fun w' hw' => LA w' hw') hS ?_
          go_simp
          refine held_any (fuel := 38) (i := 3) (v := .int .i64 i) rfl (by kernel_rfl) (by kernel_rfl) (by kernel_rfl) rfl (fun _ _ _ h => h) (fun _ _ => rfl) hS ?_
          go_simp
          refine held_any (fuel := 37) (i := 4) (v := .bool true) rfl (by kernel_rfl) (by kernel_rfl) (by kernel_rfl) rfl (fun _ _ _ h => h) (fun _ _ => by go_simp) hS ?_
          go_simp
          refine wpAnyH_ready (rs := [2]) (by kernel_rfl) (by simp) ?_
          refine AllReadyH.cons rfl (fun K hK => ?_) AllReadyH.nil
          go_simp
          refine (Cka _ hS).mono ?_
          rintro e x0 ⟨rfl, bx0⟩
          have hT0 := hS.trans (bx0.mono hS.size)
          refine hK.out _ _ hT0 (fun _ => ?_)
          clear hK K bx0
          go_simp
          refine held_any (fuel := 35) (i := 5) (v := .bool true) rfl (by kernel_rfl) (by kernel_rfl) (by kernel_rfl) rfl (fun _ _ _ h => h) (fun _ _ => rfl) hT0 ?_
          go_simp
          refine held_load (fuel := 34) (i := 6) (t := 37) (v := .agg m.row) rfl rfl rfl (by kernel_rfl) (by kernel_rfl) (by kernel_rfl) rfl (fun _ _ _ h => h) (fun w' hw' => LM w' hw') hT0 ?_
          go_simp
          refine held_load (fuel := 33) (i := 7) (t := 42) (v := .agg #[.int .i64 3, .int .i64 i, .int .i64 0]) rfl rfl rfl (by kernel_rfl) (by kernel_rfl) (by kernel_rfl) rfl (fun _ _ _ h => h) (fun w' hw' => LA w' hw') hT0 ?_
          go_simp
          refine wpAnyH_ready (rs := [8]) (by kernel_rfl) (by simp) ?_
          refine AllReadyH.cons rfl (fun K hK => ?_) AllReadyH.nil
          go_simp
          refine (Cma _ hT0).mono ?_
          rintro e x1 ⟨rfl, bx1⟩
          have hT1 := hT0.trans (bx1.mono hT0.size)
          refine hK.out _ _ hT1 (fun _ => ?_)
          clear hK K bx1
          go_simp
          refine held_any (fuel := 31) (i := 9) (v := .bool mb) rfl (by kernel_rfl) (by kernel_rfl) (by kernel_rfl) rfl (fun _ _ _ h => h) (fun _ _ => rfl) hT1 ?_
          go_simp
          refine held_any (fuel := 30) (i := 10) (v := .bool false) rfl (by kernel_rfl) (by kernel_rfl) (by kernel_rfl) rfl (fun _ _ _ h => h) (fun _ _ => by go_simp) hT1 ?_
          go_simp
          refine held_any (fuel := 29) (i := 11) (v := .bool false) rfl (by kernel_rfl) (by kernel_rfl) (by kernel_rfl) rfl (fun _ _ _ h => h) (fun _ _ => rfl) hT1 ?_
          go_simp
          refine held_load (fuel := 28) (i := 12) (t := 37) (v := .agg r.row) rfl rfl rfl (by kernel_rfl) (by kernel_rfl) (by kernel_rfl) rfl (fun _ _ _ h => h) (fun w' hw' => LK w' hw') hT1 ?_
          go_simp
          refine held_load (fuel := 27) (i := 13) (t := 42) (v := .agg #[.int .i64 2, .int .i64 n, .int .i64 0]) rfl rfl rfl (by kernel_rfl) (by kernel_rfl) (by kernel_rfl) rfl (fun _ _ _ h => h) (fun w' hw' => LE w' hw') hT1 ?_
          go_simp
          refine wpAnyH_ready (rs := [14]) (by kernel_rfl) (by simp) ?_
          refine AllReadyH.cons rfl (fun K hK => ?_) AllReadyH.nil
          go_simp
          refine (Cky _ hT1).mono ?_
          rintro e x2 ⟨rfl, bx2⟩
          have hT2 := hT1.trans (bx2.mono hT1.size)
          refine hK.out _ _ hT2 (fun _ => ?_)
          clear hK K bx2
          go_simp
          refine held_any (fuel := 25) (i := 15) (v := .bool false) rfl (by kernel_rfl) (by kernel_rfl) (by kernel_rfl) rfl (fun _ _ _ h => h) (fun _ _ => rfl) hT2 ?_
          go_simp
          refine held_any (fuel := 24) (i := 16) (v := .bool false) rfl (by kernel_rfl) (by kernel_rfl) (by kernel_rfl) rfl (fun _ _ _ h => h) (fun _ _ => rfl) hT2 ?_
          go_simp
          refine held_any (fuel := 23) (i := 17) (v := .int .i64 i) rfl (by kernel_rfl) (by kernel_rfl) (by kernel_rfl) rfl (fun _ _ _ h => h) (fun _ _ => rfl) hT2 ?_
          go_simp
          refine held_any (fuel := 22) (i := 18) (v := .int .i64 n) rfl (by kernel_rfl) (by kernel_rfl) (by kernel_rfl) rfl (fun _ _ _ h => h) (fun _ _ => by go_simp) hT2 ?_
          go_simp
          refine held_any (fuel := 21) (i := 19) (v := .bool false) rfl (by kernel_rfl) (by kernel_rfl) (by kernel_rfl) rfl (fun _ _ _ h => h) (fun _ _ => by go_simp) hT2 ?_
          go_simp
          refine held_any (fuel := 20) (i := 20) (v := .bool false) rfl (by kernel_rfl) (by kernel_rfl) (by kernel_rfl) rfl (fun _ _ _ h => h) (fun _ _ => rfl) hT2 ?_
          go_simp
          refine kheld_skip (fuel := 19) (i := 21) rfl (by kernel_rfl) (by kernel_rfl) (by kernel_rfl) rfl (fun _ _ _ h => h) hT2 ?_
          go_simp
          refine kheld_skip (fuel := 18) (i := 22) rfl (by kernel_rfl) (by kernel_rfl) (by kernel_rfl) rfl (fun _ _ _ h => h) hT2 ?_
          go_simp
          refine kheld_skip (fuel := 17) (i := 23) rfl (by kernel_rfl) (by kernel_rfl) (by kernel_rfl) rfl (fun _ _ _ h => h) hT2 ?_
          go_simp
          refine kheld_skip (fuel := 16) (i := 24) rfl (by kernel_rfl) (by kernel_rfl) (by kernel_rfl) rfl (fun _ _ _ h => h) hT2 ?_
          go_simp
          refine held_any (fuel := 15) (i := 25) (v := .bool false) rfl (by kernel_rfl) (by kernel_rfl) (by kernel_rfl) rfl (fun _ _ _ h => h) (fun _ _ => rfl) hT2 ?_
          go_simp
          refine held_any (fuel := 14) (i := 26) (v := .bool false) rfl (by kernel_rfl) (by kernel_rfl) (by kernel_rfl) rfl (fun _ _ _ h => h) (fun _ _ => rfl) hT2 ?_
          go_simp
          refine held_any (fuel := 13) (i := 27) (v := .bool false) rfl (by kernel_rfl) (by kernel_rfl) (by kernel_rfl) rfl (fun _ _ _ h => h) (fun _ _ => rfl) hT2 ?_
          go_simp
          refine held_any (fuel := 12) (i := 28) (v := .int .i64 i) rfl (by kernel_rfl) (by kernel_rfl) (by kernel_rfl) rfl (fun _ _ _ h => h) (fun _ _ => rfl) hT2 ?_
          go_simp
          refine held_any (fuel := 11) (i := 29) (v := .int .i64 n) rfl (by kernel_rfl) (by kernel_rfl) (by kernel_rfl) rfl (fun _ _ _ h => h) (fun _ _ => by go_simp) hT2 ?_
          go_simp
          refine held_any (fuel := 10) (i := 30) (v := .bool true) rfl (by kernel_rfl) (by kernel_rfl) (by kernel_rfl) rfl (fun _ _ _ h => h) (fun _ _ => by go_simp) hT2 ?_
          go_simp
          refine held_any (fuel := 9) (i := 31) (v := .bool true) rfl (by kernel_rfl) (by kernel_rfl) (by kernel_rfl) rfl (fun _ _ _ h => h) (fun _ _ => rfl) hT2 ?_
          go_simp
          refine held_load (fuel := 8) (i := 32) (t := 37) (v := .agg r.row) rfl rfl rfl (by kernel_rfl) (by kernel_rfl) (by kernel_rfl) rfl (fun _ _ _ h => h) (fun w' hw' => LK w' hw') hT2 ?_
          go_simp
          refine held_load (fuel := 7) (i := 33) (t := 42) (v := .agg #[.int .i64 9, .int .i64 n, .int .i64 0]) rfl rfl rfl (by kernel_rfl) (by kernel_rfl) (by kernel_rfl) rfl (fun _ _ _ h => h) (fun w' hw' => LD w' hw') hT2 ?_
          go_simp
          refine held_load (fuel := 6) (i := 35) (t := 37) (v := .agg m.row) rfl rfl rfl (by kernel_rfl) (by kernel_rfl) (by kernel_rfl) rfl (fun _ _ _ h => h) (fun w' hw' => LM w' hw') hT2 ?_
          go_simp
          refine held_load (fuel := 5) (i := 36) (t := 42) (v := .agg #[.int .i64 9, .int .i64 n, .int .i64 0]) rfl rfl rfl (by kernel_rfl) (by kernel_rfl) (by kernel_rfl) rfl (fun _ _ _ h => h) (fun w' hw' => LD w' hw') hT2 ?_
          go_simp
          refine wpAnyH_ready (rs := [34]) (by kernel_rfl) (by simp) ?_
          refine AllReadyH.cons rfl (fun K hK => ?_) AllReadyH.nil
          go_simp
          refine (Ckd _ hT2).mono ?_
          rintro e x3 ⟨rfl, bx3⟩
          have hT3 := hT2.trans (bx3.mono hT2.size)
          refine hK.out _ _ hT3 (fun _ => ?_)
          clear hK K bx3
          go_simp
          refine wpAnyH_ready (rs := [37]) (by kernel_rfl) (by simp) ?_
          refine AllReadyH.cons rfl (fun K hK => ?_) AllReadyH.nil
          go_simp
          refine (Cmd _ hT3).mono ?_
          rintro e x4 ⟨rfl, bx4⟩
          have hT4 := hT3.trans (bx4.mono hT3.size)
          refine hK.out _ _ hT4 (fun _ => ?_)
          clear hK K bx4
          go_simp
          refine held_any (fuel := 2) (i := 38) (v := .bool false) rfl (by kernel_rfl) (by kernel_rfl) (by kernel_rfl) rfl (fun _ _ _ h => h) (fun _ _ => by go_simp) hT4 ?_
          go_simp
          refine held_any (fuel := 1) (i := 39) (v := .bool false) rfl (by kernel_rfl) (by kernel_rfl) (by kernel_rfl) rfl (fun _ _ _ h => h) (fun _ _ => rfl) hT4 ?_
          go_simp
          refine held_any (fuel := 0) (i := 40) (v := .bool false) rfl (by kernel_rfl) (by kernel_rfl) (by kernel_rfl) rfl (fun _ _ _ h => h) (fun _ _ => rfl) hT4 ?_
          go_simp
          refine wpAnyH_done (by kernel_rfl) ?_ _
          have HX : Hid (Base m r q3 q4 w _) := HB.out.more hT4
          clear hS hT0 hT1 hT2 hT3 hT4
          go_wp2_with fail
          go_roundw
          case rel => exact ⟨i + 1, by omega, by go_num, HX.out⟩
          case measure => simp [intOf]; omega
      · have g' : ¬ (32 : Int) ≤ (i : Int) := by omega
        have Cka : ∀ w', Below W.heap.size W w' → Calls Tryd.prog 13 #[.agg r.row, .agg #[.int .i64 3, .int .i64 i, .int .i64 0]] w' fun e w'' => e = .returned (.bool false) ∧ Below w'.heap.size w' w'' := fun w' hw' => by
            have h := CB w' hw'
            rw [GL.out (by omega)] at h
            exact h
        clear CB
        by_cases l : n < 16
        · have l' : (n : Int) < 16 := by omega
          have l2 : ¬ (16 : Int) ≤ (n : Int) := by omega
          have Ckd : ∀ w', Below W.heap.size W w' → Calls Tryd.prog 14 #[.agg r.row, .agg #[.int .i64 9, .int .i64 n, .int .i64 0]] w' fun e w'' => e = .returned (.int .i16 0) ∧ Below w'.heap.size w' w'' := fun w' hw' => by
            have h := CW w' hw'
            rw [GZ.out l] at h
            exact h
          clear CW
          refine wp_region_held (S := Below W.heap.size W) (by kernel_rfl) ?_
          refine held_load (fuel := 40) (i := 0) (t := 37) (v := .agg r.row) rfl rfl rfl (by kernel_rfl) (by kernel_rfl) (by kernel_rfl) rfl (fun _ _ _ h => h) (fun w' hw' => LK w' hw') hS ?_
          go_simp
          refine held_load (fuel := 39) (i := 1) (t := 42) (v := .agg #[.int .i64 3, .int .i64 i, .int .i64 0]) rfl rfl rfl (by kernel_rfl) (by kernel_rfl) (by kernel_rfl) rfl (fun _ _ _ h => h) (fun w' hw' => LA w' hw') hS ?_
          go_simp
          refine held_any (fuel := 38) (i := 3) (v := .int .i64 i) rfl (by kernel_rfl) (by kernel_rfl) (by kernel_rfl) rfl (fun _ _ _ h => h) (fun _ _ => rfl) hS ?_
          go_simp
          refine held_any (fuel := 37) (i := 4) (v := .bool false) rfl (by kernel_rfl) (by kernel_rfl) (by kernel_rfl) rfl (fun _ _ _ h => h) (fun _ _ => by go_simp) hS ?_
          go_simp
          refine wpAnyH_ready (rs := [2]) (by kernel_rfl) (by simp) ?_
          refine AllReadyH.cons rfl (fun K hK => ?_) AllReadyH.nil
          go_simp
          refine (Cka _ hS).mono ?_
          rintro e x0 ⟨rfl, bx0⟩
          have hT0 := hS.trans (bx0.mono hS.size)
          refine hK.out _ _ hT0 (fun _ => ?_)
          clear hK K bx0
          go_simp
          refine held_any (fuel := 35) (i := 5) (v := .bool false) rfl (by kernel_rfl) (by kernel_rfl) (by kernel_rfl) rfl (fun _ _ _ h => h) (fun _ _ => rfl) hT0 ?_
          go_simp
          refine kheld_skip (fuel := 34) (i := 6) rfl (by kernel_rfl) (by kernel_rfl) (by kernel_rfl) rfl (fun _ _ _ h => h) hT0 ?_
          go_simp
          refine kheld_skip (fuel := 33) (i := 7) rfl (by kernel_rfl) (by kernel_rfl) (by kernel_rfl) rfl (fun _ _ _ h => h) hT0 ?_
          go_simp
          refine kheld_skip (fuel := 32) (i := 8) rfl (by kernel_rfl) (by kernel_rfl) (by kernel_rfl) rfl (fun _ _ _ h => h) hT0 ?_
          go_simp
          refine held_any (fuel := 31) (i := 9) (v := .bool false) rfl (by kernel_rfl) (by kernel_rfl) (by kernel_rfl) rfl (fun _ _ _ h => h) (fun _ _ => rfl) hT0 ?_
          go_simp
          refine held_any (fuel := 30) (i := 10) (v := .bool false) rfl (by kernel_rfl) (by kernel_rfl) (by kernel_rfl) rfl (fun _ _ _ h => h) (fun _ _ => by go_simp) hT0 ?_
          go_simp
          refine held_any (fuel := 29) (i := 11) (v := .bool false) rfl (by kernel_rfl) (by kernel_rfl) (by kernel_rfl) rfl (fun _ _ _ h => h) (fun _ _ => rfl) hT0 ?_
          go_simp
          refine held_load (fuel := 28) (i := 12) (t := 37) (v := .agg r.row) rfl rfl rfl (by kernel_rfl) (by kernel_rfl) (by kernel_rfl) rfl (fun _ _ _ h => h) (fun w' hw' => LK w' hw') hT0 ?_
          go_simp
          refine held_load (fuel := 27) (i := 13) (t := 42) (v := .agg #[.int .i64 2, .int .i64 n, .int .i64 0]) rfl rfl rfl (by kernel_rfl) (by kernel_rfl) (by kernel_rfl) rfl (fun _ _ _ h => h) (fun w' hw' => LE w' hw') hT0 ?_
          go_simp
          refine wpAnyH_ready (rs := [14]) (by kernel_rfl) (by simp) ?_
          refine AllReadyH.cons rfl (fun K hK => ?_) AllReadyH.nil
          go_simp
          refine (Cky _ hT0).mono ?_
          rintro e x1 ⟨rfl, bx1⟩
          have hT1 := hT0.trans (bx1.mono hT0.size)
          refine hK.out _ _ hT1 (fun _ => ?_)
          clear hK K bx1
          go_simp
          refine held_any (fuel := 25) (i := 15) (v := .bool false) rfl (by kernel_rfl) (by kernel_rfl) (by kernel_rfl) rfl (fun _ _ _ h => h) (fun _ _ => rfl) hT1 ?_
          go_simp
          refine held_any (fuel := 24) (i := 16) (v := .bool false) rfl (by kernel_rfl) (by kernel_rfl) (by kernel_rfl) rfl (fun _ _ _ h => h) (fun _ _ => rfl) hT1 ?_
          go_simp
          refine held_any (fuel := 23) (i := 17) (v := .int .i64 i) rfl (by kernel_rfl) (by kernel_rfl) (by kernel_rfl) rfl (fun _ _ _ h => h) (fun _ _ => rfl) hT1 ?_
          go_simp
          refine held_any (fuel := 22) (i := 18) (v := .int .i64 n) rfl (by kernel_rfl) (by kernel_rfl) (by kernel_rfl) rfl (fun _ _ _ h => h) (fun _ _ => by go_simp) hT1 ?_
          go_simp
          refine held_any (fuel := 21) (i := 19) (v := .bool true) rfl (by kernel_rfl) (by kernel_rfl) (by kernel_rfl) rfl (fun _ _ _ h => h) (fun _ _ => by go_simp) hT1 ?_
          go_simp
          refine held_any (fuel := 20) (i := 20) (v := .bool true) rfl (by kernel_rfl) (by kernel_rfl) (by kernel_rfl) rfl (fun _ _ _ h => h) (fun _ _ => rfl) hT1 ?_
          go_simp
          refine held_load (fuel := 19) (i := 21) (t := 37) (v := .agg r.row) rfl rfl rfl (by kernel_rfl) (by kernel_rfl) (by kernel_rfl) rfl (fun _ _ _ h => h) (fun w' hw' => LK w' hw') hT1 ?_
          go_simp
          refine held_load (fuel := 18) (i := 22) (t := 42) (v := .agg #[.int .i64 9, .int .i64 n, .int .i64 0]) rfl rfl rfl (by kernel_rfl) (by kernel_rfl) (by kernel_rfl) rfl (fun _ _ _ h => h) (fun w' hw' => LD w' hw') hT1 ?_
          go_simp
          refine wpAnyH_ready (rs := [23]) (by kernel_rfl) (by simp) ?_
          refine AllReadyH.cons rfl (fun K hK => ?_) AllReadyH.nil
          go_simp
          refine (Ckd _ hT1).mono ?_
          rintro e x2 ⟨rfl, bx2⟩
          have hT2 := hT1.trans (bx2.mono hT1.size)
          refine hK.out _ _ hT2 (fun _ => ?_)
          clear hK K bx2
          go_simp
          refine held_any (fuel := 16) (i := 24) (v := .bool false) rfl (by kernel_rfl) (by kernel_rfl) (by kernel_rfl) rfl (fun _ _ _ h => h) (fun _ _ => by go_simp) hT2 ?_
          go_simp
          refine held_any (fuel := 15) (i := 25) (v := .bool false) rfl (by kernel_rfl) (by kernel_rfl) (by kernel_rfl) rfl (fun _ _ _ h => h) (fun _ _ => rfl) hT2 ?_
          go_simp
          refine held_any (fuel := 14) (i := 26) (v := .bool false) rfl (by kernel_rfl) (by kernel_rfl) (by kernel_rfl) rfl (fun _ _ _ h => h) (fun _ _ => rfl) hT2 ?_
          go_simp
          refine held_any (fuel := 13) (i := 27) (v := .bool false) rfl (by kernel_rfl) (by kernel_rfl) (by kernel_rfl) rfl (fun _ _ _ h => h) (fun _ _ => rfl) hT2 ?_
          go_simp
          refine held_any (fuel := 12) (i := 28) (v := .int .i64 i) rfl (by kernel_rfl) (by kernel_rfl) (by kernel_rfl) rfl (fun _ _ _ h => h) (fun _ _ => rfl) hT2 ?_
          go_simp
          refine held_any (fuel := 11) (i := 29) (v := .int .i64 n) rfl (by kernel_rfl) (by kernel_rfl) (by kernel_rfl) rfl (fun _ _ _ h => h) (fun _ _ => by go_simp) hT2 ?_
          go_simp
          refine held_any (fuel := 10) (i := 30) (v := .bool false) rfl (by kernel_rfl) (by kernel_rfl) (by kernel_rfl) rfl (fun _ _ _ h => h) (fun _ _ => by go_simp) hT2 ?_
          go_simp
          refine held_any (fuel := 9) (i := 31) (v := .bool false) rfl (by kernel_rfl) (by kernel_rfl) (by kernel_rfl) rfl (fun _ _ _ h => h) (fun _ _ => rfl) hT2 ?_
          go_simp
          refine kheld_skip (fuel := 8) (i := 32) rfl (by kernel_rfl) (by kernel_rfl) (by kernel_rfl) rfl (fun _ _ _ h => h) hT2 ?_
          go_simp
          refine kheld_skip (fuel := 7) (i := 33) rfl (by kernel_rfl) (by kernel_rfl) (by kernel_rfl) rfl (fun _ _ _ h => h) hT2 ?_
          go_simp
          refine kheld_skip (fuel := 6) (i := 34) rfl (by kernel_rfl) (by kernel_rfl) (by kernel_rfl) rfl (fun _ _ _ h => h) hT2 ?_
          go_simp
          refine kheld_skip (fuel := 5) (i := 35) rfl (by kernel_rfl) (by kernel_rfl) (by kernel_rfl) rfl (fun _ _ _ h => h) hT2 ?_
          go_simp
          refine kheld_skip (fuel := 4) (i := 36) rfl (by kernel_rfl) (by kernel_rfl) (by kernel_rfl) rfl (fun _ _ _ h => h) hT2 ?_
          go_simp
          refine kheld_skip (fuel := 3) (i := 37) rfl (by kernel_rfl) (by kernel_rfl) (by kernel_rfl) rfl (fun _ _ _ h => h) hT2 ?_
          go_simp
          refine kheld_skip (fuel := 2) (i := 38) rfl (by kernel_rfl) (by kernel_rfl) (by kernel_rfl) rfl (fun _ _ _ h => h) hT2 ?_
          go_simp
          refine held_any (fuel := 1) (i := 39) (v := .bool false) rfl (by kernel_rfl) (by kernel_rfl) (by kernel_rfl) rfl (fun _ _ _ h => h) (fun _ _ => rfl) hT2 ?_
          go_simp
          refine held_any (fuel := 0) (i := 40) (v := .bool false) rfl (by kernel_rfl) (by kernel_rfl) (by kernel_rfl) rfl (fun _ _ _ h => h) (fun _ _ => rfl) hT2 ?_
          go_simp
          refine wpAnyH_done (by kernel_rfl) ?_ _
          have HX : Hid (Base m r q3 q4 w _) := HB.out.more hT2
          clear hS hT0 hT1 hT2
          go_wp2_with fail
          go_roundw
          case rel => exact ⟨i + 1, by omega, by go_num, HX.out⟩
          case measure => simp [intOf]; omega
        · have l' : ¬ (n : Int) < 16 := by omega
          have l2 : (16 : Int) ≤ (n : Int) := by omega
          have Ckd : ∀ w', Below W.heap.size W w' → Calls Tryd.prog 14 #[.agg r.row, .agg #[.int .i64 9, .int .i64 n, .int .i64 0]] w' fun e w'' => e = .returned (.int .i16 dz) ∧ Below w'.heap.size w' w'' := fun w' hw' => by
            have h := CW w' hw'
            rw [GW.out (by omega)] at h
            exact h
          clear CW
          refine wp_region_held (S := Below W.heap.size W) (by kernel_rfl) ?_
          refine held_load (fuel := 40) (i := 0) (t := 37) (v := .agg r.row) rfl rfl rfl (by kernel_rfl) (by kernel_rfl) (by kernel_rfl) rfl (fun _ _ _ h => h) (fun w' hw' => LK w' hw') hS ?_
          go_simp
          refine held_load (fuel := 39) (i := 1) (t := 42) (v := .agg #[.int .i64 3, .int .i64 i, .int .i64 0]) rfl rfl rfl (by kernel_rfl) (by kernel_rfl) (by kernel_rfl) rfl (fun _ _ _ h => h) (fun w' hw' => LA w' hw') hS ?_
          go_simp
          refine held_any (fuel := 38) (i := 3) (v := .int .i64 i) rfl (by kernel_rfl) (by kernel_rfl) (by kernel_rfl) rfl (fun _ _ _ h => h) (fun _ _ => rfl) hS ?_
          go_simp
          refine held_any (fuel := 37) (i := 4) (v := .bool false) rfl (by kernel_rfl) (by kernel_rfl) (by kernel_rfl) rfl (fun _ _ _ h => h) (fun _ _ => by go_simp) hS ?_
          go_simp
          refine wpAnyH_ready (rs := [2]) (by kernel_rfl) (by simp) ?_
          refine AllReadyH.cons rfl (fun K hK => ?_) AllReadyH.nil
          go_simp
          refine (Cka _ hS).mono ?_
          rintro e x0 ⟨rfl, bx0⟩
          have hT0 := hS.trans (bx0.mono hS.size)
          refine hK.out _ _ hT0 (fun _ => ?_)
          clear hK K bx0
          go_simp
          refine held_any (fuel := 35) (i := 5) (v := .bool false) rfl (by kernel_rfl) (by kernel_rfl) (by kernel_rfl) rfl (fun _ _ _ h => h) (fun _ _ => rfl) hT0 ?_
          go_simp
          refine kheld_skip (fuel := 34) (i := 6) rfl (by kernel_rfl) (by kernel_rfl) (by kernel_rfl) rfl (fun _ _ _ h => h) hT0 ?_
          go_simp
          refine kheld_skip (fuel := 33) (i := 7) rfl (by kernel_rfl) (by kernel_rfl) (by kernel_rfl) rfl (fun _ _ _ h => h) hT0 ?_
          go_simp
          refine kheld_skip (fuel := 32) (i := 8) rfl (by kernel_rfl) (by kernel_rfl) (by kernel_rfl) rfl (fun _ _ _ h => h) hT0 ?_
          go_simp
          refine held_any (fuel := 31) (i := 9) (v := .bool false) rfl (by kernel_rfl) (by kernel_rfl) (by kernel_rfl) rfl (fun _ _ _ h => h) (fun _ _ => rfl) hT0 ?_
          go_simp
          refine held_any (fuel := 30) (i := 10) (v := .bool false) rfl (by kernel_rfl) (by kernel_rfl) (by kernel_rfl) rfl (fun _ _ _ h => h) (fun _ _ => by go_simp) hT0 ?_
          go_simp
          refine held_any (fuel := 29) (i := 11) (v := .bool false) rfl (by kernel_rfl) (by kernel_rfl) (by kernel_rfl) rfl (fun _ _ _ h => h) (fun _ _ => rfl) hT0 ?_
          go_simp
          refine held_load (fuel := 28) (i := 12) (t := 37) (v := .agg r.row) rfl rfl rfl (by kernel_rfl) (by kernel_rfl) (by kernel_rfl) rfl (fun _ _ _ h => h) (fun w' hw' => LK w' hw') hT0 ?_
          go_simp
          refine held_load (fuel := 27) (i := 13) (t := 42) (v := .agg #[.int .i64 2, .int .i64 n, .int .i64 0]) rfl rfl rfl (by kernel_rfl) (by kernel_rfl) (by kernel_rfl) rfl (fun _ _ _ h => h) (fun w' hw' => LE w' hw') hT0 ?_
          go_simp
          refine wpAnyH_ready (rs := [14]) (by kernel_rfl) (by simp) ?_
          refine AllReadyH.cons rfl (fun K hK => ?_) AllReadyH.nil
          go_simp
          refine (Cky _ hT0).mono ?_
          rintro e x1 ⟨rfl, bx1⟩
          have hT1 := hT0.trans (bx1.mono hT0.size)
          refine hK.out _ _ hT1 (fun _ => ?_)
          clear hK K bx1
          go_simp
          refine held_any (fuel := 25) (i := 15) (v := .bool false) rfl (by kernel_rfl) (by kernel_rfl) (by kernel_rfl) rfl (fun _ _ _ h => h) (fun _ _ => rfl) hT1 ?_
          go_simp
          refine held_any (fuel := 24) (i := 16) (v := .bool false) rfl (by kernel_rfl) (by kernel_rfl) (by kernel_rfl) rfl (fun _ _ _ h => h) (fun _ _ => rfl) hT1 ?_
          go_simp
          refine held_any (fuel := 23) (i := 17) (v := .int .i64 i) rfl (by kernel_rfl) (by kernel_rfl) (by kernel_rfl) rfl (fun _ _ _ h => h) (fun _ _ => rfl) hT1 ?_
          go_simp
          refine held_any (fuel := 22) (i := 18) (v := .int .i64 n) rfl (by kernel_rfl) (by kernel_rfl) (by kernel_rfl) rfl (fun _ _ _ h => h) (fun _ _ => by go_simp) hT1 ?_
          go_simp
          refine held_any (fuel := 21) (i := 19) (v := .bool false) rfl (by kernel_rfl) (by kernel_rfl) (by kernel_rfl) rfl (fun _ _ _ h => h) (fun _ _ => by go_simp) hT1 ?_
          go_simp
          refine held_any (fuel := 20) (i := 20) (v := .bool false) rfl (by kernel_rfl) (by kernel_rfl) (by kernel_rfl) rfl (fun _ _ _ h => h) (fun _ _ => rfl) hT1 ?_
          go_simp
          refine kheld_skip (fuel := 19) (i := 21) rfl (by kernel_rfl) (by kernel_rfl) (by kernel_rfl) rfl (fun _ _ _ h => h) hT1 ?_
          go_simp
          refine kheld_skip (fuel := 18) (i := 22) rfl (by kernel_rfl) (by kernel_rfl) (by kernel_rfl) rfl (fun _ _ _ h => h) hT1 ?_
          go_simp
          refine kheld_skip (fuel := 17) (i := 23) rfl (by kernel_rfl) (by kernel_rfl) (by kernel_rfl) rfl (fun _ _ _ h => h) hT1 ?_
          go_simp
          refine kheld_skip (fuel := 16) (i := 24) rfl (by kernel_rfl) (by kernel_rfl) (by kernel_rfl) rfl (fun _ _ _ h => h) hT1 ?_
          go_simp
          refine held_any (fuel := 15) (i := 25) (v := .bool false) rfl (by kernel_rfl) (by kernel_rfl) (by kernel_rfl) rfl (fun _ _ _ h => h) (fun _ _ => rfl) hT1 ?_
          go_simp
          refine held_any (fuel := 14) (i := 26) (v := .bool false) rfl (by kernel_rfl) (by kernel_rfl) (by kernel_rfl) rfl (fun _ _ _ h => h) (fun _ _ => rfl) hT1 ?_
          go_simp
          refine held_any (fuel := 13) (i := 27) (v := .bool false) rfl (by kernel_rfl) (by kernel_rfl) (by kernel_rfl) rfl (fun _ _ _ h => h) (fun _ _ => rfl) hT1 ?_
          go_simp
          refine held_any (fuel := 12) (i := 28) (v := .int .i64 i) rfl (by kernel_rfl) (by kernel_rfl) (by kernel_rfl) rfl (fun _ _ _ h => h) (fun _ _ => rfl) hT1 ?_
          go_simp
          refine held_any (fuel := 11) (i := 29) (v := .int .i64 n) rfl (by kernel_rfl) (by kernel_rfl) (by kernel_rfl) rfl (fun _ _ _ h => h) (fun _ _ => by go_simp) hT1 ?_
          go_simp
          refine held_any (fuel := 10) (i := 30) (v := .bool true) rfl (by kernel_rfl) (by kernel_rfl) (by kernel_rfl) rfl (fun _ _ _ h => h) (fun _ _ => by go_simp) hT1 ?_
          go_simp
          refine held_any (fuel := 9) (i := 31) (v := .bool true) rfl (by kernel_rfl) (by kernel_rfl) (by kernel_rfl) rfl (fun _ _ _ h => h) (fun _ _ => rfl) hT1 ?_
          go_simp
          refine held_load (fuel := 8) (i := 32) (t := 37) (v := .agg r.row) rfl rfl rfl (by kernel_rfl) (by kernel_rfl) (by kernel_rfl) rfl (fun _ _ _ h => h) (fun w' hw' => LK w' hw') hT1 ?_
          go_simp
          refine held_load (fuel := 7) (i := 33) (t := 42) (v := .agg #[.int .i64 9, .int .i64 n, .int .i64 0]) rfl rfl rfl (by kernel_rfl) (by kernel_rfl) (by kernel_rfl) rfl (fun _ _ _ h => h) (fun w' hw' => LD w' hw') hT1 ?_
          go_simp
          refine held_load (fuel := 6) (i := 35) (t := 37) (v := .agg m.row) rfl rfl rfl (by kernel_rfl) (by kernel_rfl) (by kernel_rfl) rfl (fun _ _ _ h => h) (fun w' hw' => LM w' hw') hT1 ?_
          go_simp
          refine held_load (fuel := 5) (i := 36) (t := 42) (v := .agg #[.int .i64 9, .int .i64 n, .int .i64 0]) rfl rfl rfl (by kernel_rfl) (by kernel_rfl) (by kernel_rfl) rfl (fun _ _ _ h => h) (fun w' hw' => LD w' hw') hT1 ?_
          go_simp
          refine wpAnyH_ready (rs := [34]) (by kernel_rfl) (by simp) ?_
          refine AllReadyH.cons rfl (fun K hK => ?_) AllReadyH.nil
          go_simp
          refine (Ckd _ hT1).mono ?_
          rintro e x2 ⟨rfl, bx2⟩
          have hT2 := hT1.trans (bx2.mono hT1.size)
          refine hK.out _ _ hT2 (fun _ => ?_)
          clear hK K bx2
          go_simp
          refine wpAnyH_ready (rs := [37]) (by kernel_rfl) (by simp) ?_
          refine AllReadyH.cons rfl (fun K hK => ?_) AllReadyH.nil
          go_simp
          refine (Cmd _ hT2).mono ?_
          rintro e x3 ⟨rfl, bx3⟩
          have hT3 := hT2.trans (bx3.mono hT2.size)
          refine hK.out _ _ hT3 (fun _ => ?_)
          clear hK K bx3
          go_simp
          refine held_any (fuel := 2) (i := 38) (v := .bool false) rfl (by kernel_rfl) (by kernel_rfl) (by kernel_rfl) rfl (fun _ _ _ h => h) (fun _ _ => by go_simp) hT3 ?_
          go_simp
          refine held_any (fuel := 1) (i := 39) (v := .bool false) rfl (by kernel_rfl) (by kernel_rfl) (by kernel_rfl) rfl (fun _ _ _ h => h) (fun _ _ => rfl) hT3 ?_
          go_simp
          refine held_any (fuel := 0) (i := 40) (v := .bool false) rfl (by kernel_rfl) (by kernel_rfl) (by kernel_rfl) rfl (fun _ _ _ h => h) (fun _ _ => rfl) hT3 ?_
          go_simp
          refine wpAnyH_done (by kernel_rfl) ?_ _
          have HX : Hid (Base m r q3 q4 w _) := HB.out.more hT3
          clear hS hT0 hT1 hT2 hT3
          go_wp2_with fail
          go_roundw
          case rel => exact ⟨i + 1, by omega, by go_num, HX.out⟩
          case measure => simp [intOf]; omega
    · obtain rfl : i = 64 := by omega
      have e3 : r.s = m.s := by rw [HK.out]; rfl
      have k3 := B.k.c 3 (by omega)
      rw [MemV.cell_s, e3] at k3
      have m3 := B.m.c 3 (by omega)
      rw [MemV.cell_s] at m3
      have k0 := B.k.c 0 (by omega)
      rw [MemV.cell_x, show r.x = 0 by rw [HK.out]; rfl] at k0
      have k4 := B.k.c 4 (by omega)
      rw [MemV.cell_e, show r.e = 0 by rw [HK.out]; rfl] at k4
      have k133 := B.k.c 133 (by omega)
      rw [MemV.cell_time, show r.time = 0 by rw [HK.out]; rfl] at k133
      have k134 := B.k.c 134 (by omega)
      rw [MemV.cell_ran, show r.ran = false by rw [HK.out]; rfl] at k134
      have k135 := B.k.c 135 (by omega)
      rw [MemV.cell_fault, show r.fault = false by rw [HK.out]; rfl] at k135
      have L1 := load_row aTimer sTimer B.k.timers
      rw [show r.tD = m.tD by rw [HK.out]; rfl, show r.tC = m.tC by rw [HK.out]; rfl] at L1
      have L2 := load_row aTimer sTimer B.m.timers
      have L3 := load_row aCounter sCounter B.k.counters
      rw [show r.cD = m.cD by rw [HK.out]; rfl, show r.cL = m.cL by rw [HK.out]; rfl, show r.cC = m.cC by rw [HK.out]; rfl] at L3
      have L4 := load_row aCounter sCounter B.m.counters
      have E1 := eqT m.tD m.tC m rfl rfl wr
      have E2 := eqC m.cD m.cL m.cC m rfl rfl rfl wr
      have HF : Hid (Below w.heap.size w wr) := B.b
      clear B
      go_wp2_with (first | refine list_load (t := 28) (x := .pointer (some ⟨q4, 5, none⟩)) (u := .agg (rowOf (fTimer m.tD m.tC) 32)) rfl rfl rfl L1 ?_ | refine list_load (t := 28) (x := .pointer (some ⟨q3, 5, none⟩)) (u := .agg (rowOf (fTimer m.tD m.tC) 32)) rfl rfl rfl L2 ?_ | refine list_load (t := 31) (x := .pointer (some ⟨q4, 37, none⟩)) (u := .agg (rowOf (fCounter m.cD m.cL m.cC) 48)) rfl rfl rfl L3 ?_ | refine list_load (t := 31) (x := .pointer (some ⟨q3, 37, none⟩)) (u := .agg (rowOf (fCounter m.cD m.cL m.cC) 48)) rfl rfl rfl L4 ?_ | refine list_bin (t := 28) rfl rfl rfl rfl (run_eqGuard_agg _ _ _ _ _ _ _ (by kernel_rfl)) E1 ?_ | refine list_bin (t := 31) rfl rfl rfl rfl (run_eqGuard_agg _ _ _ _ _ _ _ (by kernel_rfl)) E2 ?_)
      go_ret
      exact ⟨rfl, HF.out⟩

theorem law (a0 : Option Addr) (l0 c0 : Nat) (w : World) (C0 : CodeAt (.slice a0 l0 c0) w) (n0 : l0 ≤ 9223372036854775807) (T : KTab w) :
    Calls Tryd.prog 3 #[.slice a0 l0 c0] w fun e w' => e = .returned (.bool true) ∧ Below w.heap.size w w' := by
  by_cases h : l0 ≤ 1048576
  · exact law_short a0 l0 c0 w T h C0
  · exact law_long a0 l0 c0 w (by omega) n0

end Go.Proofs.YtdhoimjkgicneabDoor
