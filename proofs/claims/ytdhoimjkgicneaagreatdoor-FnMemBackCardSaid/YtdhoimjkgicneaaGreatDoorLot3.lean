/- Texts of this proof laid together: DrawA, DrawN, Ret. -/
import Derived.Test.YtdhoimjkgicneaaGreatDoorRows
import Derived.WalkKit
import Derived.WalkSpells
import Derived.WalkLawsBesides
import Derived.Deep.QuietTactic
import Derived.BigQuiet
/- The reader of a drawn code: what one pick does. -/
namespace Go.Proofs.YtdhoimjkgicneaaGreatDoor
open Go Go.RowKit

/-- Block R is a reader over len bytes in block b, at place p. -/
structure RdAt (R b off len cap p : Nat) (w : World) : Prop where
  zR : R < w.heap.size
  lt : b < R
  c0 : w.cell? ⟨R, 0, none⟩ = some (.slice (some ⟨b, off, none⟩) len cap)
  c1 : w.cell? ⟨R, 1, none⟩ = some (.int .i64 p)
  fr : w.frozen? ⟨R, 1, none⟩ = false
  el : ∀ i, i < len → ∃ x : Nat, x ≤ 255 ∧ w.cell? ⟨b, off + i, none⟩ = some (.int .u8 x)
  l1 : 1 ≤ len
  l2 : len ≤ 2000

/-- Block R is a reader over no bytes, at place p. -/
structure RdNo (R p : Nat) (w : World) : Prop where
  zR : R < w.heap.size
  c0 : ∃ (a : Option Addr) (cap : Nat), w.cell? ⟨R, 0, none⟩ = some (.slice a 0 cap)
  c1 : w.cell? ⟨R, 1, none⟩ = some (.int .i64 p)
  fr : w.frozen? ⟨R, 1, none⟩ = false

/-- Block R is a reader that has picked at most c times. -/
def Rd (R c : Nat) (w : World) : Prop := (∃ b off len cap p, p ≤ c ∧ RdAt R b off len cap p w) ∨ (∃ p, p ≤ c ∧ RdNo R p w)

/-- Nothing that was there has turned, but block R. -/
structure Moved (R : Nat) (w w' : World) : Prop where
  os : w'.os = w.os
  tape : w'.tape = w.tape
  output : w'.output = w.output
  size : w.heap.size ≤ w'.heap.size
  block : ∀ i, i < w.heap.size → i ≠ R → w'.heap[i]? = w.heap[i]?

theorem Moved.refl (R : Nat) (w : World) : Moved R w w := ⟨rfl, rfl, rfl, Nat.le_refl _, fun _ _ _ => rfl⟩
theorem Moved.trans {R : Nat} {a b c : World} (h : Moved R a b) (k : Moved R b c) : Moved R a c :=
  ⟨k.os.trans h.os, k.tape.trans h.tape, k.output.trans h.output, Nat.le_trans h.size k.size, fun i hi hn => (k.block i (Nat.lt_of_lt_of_le hi h.size) hn).trans (h.block i hi hn)⟩
theorem Moved.of_below {R : Nat} {w w' : World} {B : Nat} (h : Below B w w') (hB : w.heap.size ≤ B) : Moved R w w' :=
  ⟨h.os, h.tape, h.output, h.size, fun i hi _ => h.block i (Nat.lt_of_lt_of_le hi hB)⟩
theorem Moved.cell {R : Nat} {w w' : World} (h : Moved R w w') {p : Addr} (hp : p.block < w.heap.size) (hn : p.block ≠ R) : w'.cell? p = w.cell? p := World.cell?_of_block (w := w) (h.block p.block hp hn)
theorem Moved.frozen {R : Nat} {w w' : World} (h : Moved R w w') {p : Addr} (hp : p.block < w.heap.size) (hn : p.block ≠ R) : w'.frozen? p = w.frozen? p := World.frozen?_of_block (w := w) (h.block p.block hp hn)
theorem Moved.below {R : Nat} {w w' : World} (h : Moved R w w') {B : Nat} (h1 : B ≤ w.heap.size) (h2 : B ≤ R) : Below B w w' :=
  ⟨h.os, h.tape, h.output, h.size, fun i hi => h.block i (by omega) (by omega)⟩

set_option maxHeartbeats 400000 in
/-- A pick where the place is within the bytes. -/
theorem pick_in (R b off len cap p : Nat) (n : Int) (w : World) (h : RdAt R b off len cap p w) (hp : p < len) (hn : 1 ≤ n) (hn2 : n ≤ 1000000) :
    Calls Tryz.prog 21 #[.pointer (some ⟨R, 0, none⟩), .int .i64 n] w fun e w' => ∃ x : Int, e = .returned (.int .i64 x) ∧ 0 ≤ x ∧ x < n ∧ w' = w.setCell ⟨R, 1, none⟩ (.int .i64 ((p : Int) + 1)) := by
  have c0 := h.c0
  have c1 := h.c1
  have fr := h.fr
  have l2 := h.l2
  have ne : b ≠ R := Nat.ne_of_lt h.lt
  obtain ⟨x, hx, ex⟩ := h.el p hp
  have hl0 : ((len : Int) == 0) = false := by simp; omega
  have hx0 := Int.emod_nonneg (x : Int) (b := n) (by omega)
  have hx1 := Int.emod_lt_of_pos (x : Int) (b := n) (by omega)
  have X0 : Hid (0 ≤ (x : Int) % n) := hx0
  have X1 : Hid ((x : Int) % n < n) := hx1
  clear h hx0 hx1
  go_enter Tryz.func21, Tryz.ntmps21
  go_wp2
  go_ret
  exact ⟨_, rfl, X0.out, X1.out, rfl⟩

set_option maxHeartbeats 400000 in
/-- A pick out of no choice, or out of no bytes. -/
theorem pick_none (R p : Nat) (n : Int) (w : World) (c1 : w.cell? ⟨R, 1, none⟩ = some (.int .i64 p)) (hp : p ≤ 1000000) (fr : w.frozen? ⟨R, 1, none⟩ = false) (hn : n < 1)
    (a : Option Addr) (len cap : Nat) (_c0 : w.cell? ⟨R, 0, none⟩ = some (.slice a len cap)) :
    Calls Tryz.prog 21 #[.pointer (some ⟨R, 0, none⟩), .int .i64 n] w fun e w' => e = .returned (.int .i64 0) ∧ w' = w.setCell ⟨R, 1, none⟩ (.int .i64 ((p : Int) + 1)) := by
  go_enter Tryz.func21, Tryz.ntmps21
  go_wp2
  go_ret
  exact ⟨rfl, rfl⟩

set_option maxHeartbeats 400000 in
theorem pick_empty (R p : Nat) (n : Int) (w : World) (c1 : w.cell? ⟨R, 1, none⟩ = some (.int .i64 p)) (hp : p ≤ 1000000) (fr : w.frozen? ⟨R, 1, none⟩ = false) (hn : 1 ≤ n)
    (a : Option Addr) (cap : Nat) (c0 : w.cell? ⟨R, 0, none⟩ = some (.slice a 0 cap)) :
    Calls Tryz.prog 21 #[.pointer (some ⟨R, 0, none⟩), .int .i64 n] w fun e w' => e = .returned (.int .i64 0) ∧ w' = w.setCell ⟨R, 1, none⟩ (.int .i64 ((p : Int) + 1)) := by
  go_enter Tryz.func21, Tryz.ntmps21
  go_wp2
  go_ret
  exact ⟨rfl, rfl⟩

theorem i64_xor_nat (a b : Nat) (ha : a < 4611686018427387904) (hb : b < 4611686018427387904) : bits .xor .i64 (a : Int) (b : Int) = ((a ^^^ b : Nat) : Int) := by
  have hx : a ^^^ b < 2 ^ 62 := Nat.xor_lt_two_pow (by omega) (by omega)
  show IntKind.i64.wrap ((BitVec.ofInt 64 (a : Int) ^^^ BitVec.ofInt 64 (b : Int)).toNat : Int) = _
  rw [BitVec.toNat_xor, ofInt_u64 a (by omega), ofInt_u64 b (by omega), IntKind.wrap_i64]
  omega

theorem xor_mod (X n : Int) (h0 : 0 ≤ X) (h1 : X ≤ 1000000000) (hn : 1 ≤ n) : 0 ≤ (bits .xor .i64 X (X / 64)).tmod n ∧ (bits .xor .i64 X (X / 64)).tmod n < n := by
  obtain ⟨A, rfl⟩ := Int.eq_ofNat_of_zero_le h0
  have e : ((A : Int) / 64) = ((A / 64 : Nat) : Int) := by omega
  rw [e, i64_xor_nat A (A / 64) (by omega) (by omega)]
  exact ⟨Int.tmod_nonneg _ (by omega), Int.tmod_lt_of_pos _ (by omega)⟩

set_option maxHeartbeats 1000000 in
/-- A pick past the bytes. -/
theorem pick_past (R b off len cap p : Nat) (n : Int) (w : World) (h : RdAt R b off len cap p w) (hp : len ≤ p) (hp2 : p ≤ 1000000) (hn : 1 ≤ n) (hn2 : n ≤ 1000000) :
    Calls Tryz.prog 21 #[.pointer (some ⟨R, 0, none⟩), .int .i64 n] w fun e w' => ∃ (x : Int) (k : Nat), e = .returned (.int .i64 x) ∧ 0 ≤ x ∧ x < n ∧ w' = (w.setCell ⟨R, 1, none⟩ (.int .i64 ((p : Int) + 1))).drewN k := by
  have c0 := h.c0
  have c1 := h.c1
  have fr := h.fr
  have l1 := h.l1
  have l2 := h.l2
  have ne : b ≠ R := Nat.ne_of_lt h.lt
  obtain ⟨x, hx, ex⟩ := h.el (p % len) (Nat.mod_lt _ (by omega))
  obtain ⟨y, hy, ey⟩ := h.el ((p * 7 + 3) % len) (Nat.mod_lt _ (by omega))
  have hl0 : ((len : Int) == 0) = false := by simp; omega
  have q0 : 0 ≤ (p : Int) / (len : Int) := Int.ediv_nonneg (by omega) (by omega)
  have q1 : (p : Int) / (len : Int) ≤ 1000000 := Int.le_trans (Int.ediv_le_self _ (by omega)) (by omega)
  have i0 : 0 ≤ (p : Int) % (len : Int) := Int.emod_nonneg _ (by omega)
  have i1 : (p : Int) % (len : Int) < (len : Int) := Int.emod_lt_of_pos _ (by omega)
  have j0 : 0 ≤ ((p : Int) * 7 + 3) % (len : Int) := Int.emod_nonneg _ (by omega)
  have j1 : ((p : Int) * 7 + 3) % (len : Int) < (len : Int) := Int.emod_lt_of_pos _ (by omega)
  clear h
  go_enter Tryz.func21, Tryz.ntmps21
  go_wp2
  go_quiet (fail)
  go_wp2
  go_ret
  have hm := xor_mod ((x : Int) * 131 + (y : Int) * 1117 + (p : Int) * 29 + (p : Int) / (len : Int) * 53) n (by omega) (by omega) hn
  exact ⟨_, nq, rfl, hm.1, hm.2, rfl⟩

theorem moved_set (R : Nat) (v : Value) (w : World) (k : Nat) : Moved R w ((w.setCell ⟨R, 1, none⟩ v).drewN k) :=
  ⟨rfl, rfl, rfl, by show _ ≤ (w.setCell _ v).heap.size; simp, fun i _ hn => Below.heap_setCell w ⟨R, 1, none⟩ v i hn⟩

theorem RdAt.step {R b off len cap p : Nat} {w : World} (h : RdAt R b off len cap p w) (k : Nat) : RdAt R b off len cap (p + 1) ((w.setCell ⟨R, 1, none⟩ (.int .i64 ((p : Int) + 1))).drewN k) where
  zR := by show _ < (w.setCell _ _).heap.size; simpa using h.zR
  lt := h.lt
  c0 := by
    show (w.setCell _ _).cell? _ = _
    rw [World.cell?_setCell_other _ _ _ _ (by simp)]; exact h.c0
  c1 := by
    show (w.setCell _ _).cell? _ = _
    rw [World.cell?_setCell_same _ _ _ h.c1]; rfl
  fr := by
    show (w.setCell _ _).frozen? _ = _
    simpa using h.fr
  el := fun i hi => by
    obtain ⟨x, hx, ex⟩ := h.el i hi
    refine ⟨x, hx, ?_⟩
    show (w.setCell _ _).cell? _ = _
    rw [World.cell?_setCell_other _ _ _ _ (by intro e; injection e with e1; have := h.lt; omega)]; exact ex
  l1 := h.l1
  l2 := h.l2

theorem RdNo.step {R p : Nat} {w : World} (h : RdNo R p w) (k : Nat) : RdNo R (p + 1) ((w.setCell ⟨R, 1, none⟩ (.int .i64 ((p : Int) + 1))).drewN k) where
  zR := by show _ < (w.setCell _ _).heap.size; simpa using h.zR
  c0 := by
    obtain ⟨a, cap, e⟩ := h.c0
    refine ⟨a, cap, ?_⟩
    show (w.setCell _ _).cell? _ = _
    rw [World.cell?_setCell_other _ _ _ _ (by simp)]; exact e
  c1 := by
    show (w.setCell _ _).cell? _ = _
    rw [World.cell?_setCell_same _ _ _ h.c1]; rfl
  fr := by
    show (w.setCell _ _).frozen? _ = _
    simpa using h.fr

/-- What a pick answers, and what it leaves. -/
theorem pick_any (R c : Nat) (n : Int) (w : World) (h : Rd R c w) (hc : c ≤ 1000000) (hn : n ≤ 1000000) :
    Calls Tryz.prog 21 #[.pointer (some ⟨R, 0, none⟩), .int .i64 n] w fun e w' => ∃ x : Int, e = .returned (.int .i64 x) ∧ 0 ≤ x ∧ (1 ≤ n → x < n) ∧ (n < 1 → x = 0) ∧ Rd R (c + 1) w' ∧ Moved R w w' := by
  rcases h with ⟨b, off, len, cap, p, hp, h⟩ | ⟨p, hp, h⟩
  · by_cases h1 : n < 1
    · refine (pick_none R p n w h.c1 (by omega) h.fr h1 _ _ _ h.c0).mono ?_
      rintro e w' ⟨rfl, rfl⟩
      exact ⟨0, rfl, Int.le_refl _, by omega, fun _ => rfl, Or.inl ⟨b, off, len, cap, p + 1, by omega, h.step 0⟩, moved_set R _ w 0⟩
    · by_cases h2 : p < len
      · refine (pick_in R b off len cap p n w h h2 (by omega) hn).mono ?_
        rintro e w' ⟨x, rfl, hx0, hx1, rfl⟩
        exact ⟨x, rfl, hx0, fun _ => hx1, by omega, Or.inl ⟨b, off, len, cap, p + 1, by omega, h.step 0⟩, moved_set R _ w 0⟩
      · refine (pick_past R b off len cap p n w h (by omega) (by omega) (by omega) hn).mono ?_
        rintro e w' ⟨x, k, rfl, hx0, hx1, rfl⟩
        exact ⟨x, rfl, hx0, fun _ => hx1, by omega, Or.inl ⟨b, off, len, cap, p + 1, by omega, h.step k⟩, moved_set R _ w k⟩
  · obtain ⟨a, cap, e0⟩ := h.c0
    by_cases h1 : n < 1
    · refine (pick_none R p n w h.c1 (by omega) h.fr h1 _ _ _ e0).mono ?_
      rintro e w' ⟨rfl, rfl⟩
      exact ⟨0, rfl, Int.le_refl _, by omega, fun _ => rfl, Or.inr ⟨p + 1, by omega, h.step 0⟩, moved_set R _ w 0⟩
    · refine (pick_empty R p n w h.c1 (by omega) h.fr (by omega) _ _ e0).mono ?_
      rintro e w' ⟨rfl, rfl⟩
      exact ⟨0, rfl, Int.le_refl _, by omega, fun _ => rfl, Or.inr ⟨p + 1, by omega, h.step 0⟩, moved_set R _ w 0⟩

/-- A reader stays one where nothing of it turns. -/
theorem Rd.of_blocks {R c : Nat} {w w' : World} (h : Rd R c w) (hb : ∀ i, i < w.heap.size → w'.heap[i]? = w.heap[i]?) (hs : w.heap.size ≤ w'.heap.size) : Rd R c w' := by
  have hc : ∀ (b o : Nat), b < w.heap.size → w'.cell? ⟨b, o, none⟩ = w.cell? ⟨b, o, none⟩ := fun b o hk => World.cell?_of_block (hb b hk)
  have hf : ∀ (b o : Nat), b < w.heap.size → w'.frozen? ⟨b, o, none⟩ = w.frozen? ⟨b, o, none⟩ := fun b o hk => World.frozen?_of_block (hb b hk)
  rcases h with ⟨b, off, len, cap, p, hp, h⟩ | ⟨p, hp, h⟩
  · refine Or.inl ⟨b, off, len, cap, p, hp, ?_⟩
    have h1 := h.zR
    have h2 := h.lt
    refine ⟨by omega, h.lt, by rw [hc _ _ h.zR]; exact h.c0, by rw [hc _ _ h.zR]; exact h.c1, by rw [hf _ _ h.zR]; exact h.fr, ?_, h.l1, h.l2⟩
    intro i hi
    obtain ⟨x, hx, ex⟩ := h.el i hi
    exact ⟨x, hx, by rw [hc _ _ (by omega)]; exact ex⟩
  · refine Or.inr ⟨p, hp, ?_⟩
    have h1 := h.zR
    obtain ⟨a, cap, e0⟩ := h.c0
    exact ⟨by omega, ⟨a, cap, by rw [hc _ _ h.zR]; exact e0⟩, by rw [hc _ _ h.zR]; exact h.c1, by rw [hf _ _ h.zR]; exact h.fr⟩

theorem Rd.mono {R c c' : Nat} {w : World} (h : Rd R c w) (hc : c ≤ c') : Rd R c' w := by
  rcases h with ⟨b, off, len, cap, p, hp, h⟩ | ⟨p, hp, h⟩
  · exact Or.inl ⟨b, off, len, cap, p, by omega, h⟩
  · exact Or.inr ⟨p, by omega, h⟩
theorem Rd.size {R c : Nat} {w : World} (h : Rd R c w) : R < w.heap.size := by
  rcases h with ⟨b, off, len, cap, p, hp, h⟩ | ⟨p, hp, h⟩
  · exact h.zR
  · exact h.zR
theorem Rd.below {R c : Nat} {w w' : World} (h : Rd R c w) (hb : Below w.heap.size w w') : Rd R c w' := h.of_blocks (fun i hi => hb.block i hi) hb.size
theorem Rd.alloc {R c : Nat} {w : World} (h : Rd R c w) (o : Obj) : Rd R c (w.alloc o) := h.below ((Below.refl _ w).alloc (Nat.le_refl _) o)
theorem Rd.drew {R c : Nat} {w : World} (h : Rd R c w) : Rd R c w.drew := h.of_blocks (fun _ _ => rfl) (Nat.le_refl _)
theorem Rd.setCell {R c : Nat} {w : World} (h : Rd R c w) {a : Addr} (ha : R < a.block) (v : Value) : Rd R c (w.setCell a v) := by
  have hc : ∀ (b o : Nat), b ≤ R → (w.setCell a v).cell? ⟨b, o, none⟩ = w.cell? ⟨b, o, none⟩ := fun b o hk => World.cell?_of_block (Below.heap_setCell w a v b (by omega))
  rcases h with ⟨b, off, len, cap, p, hp, h⟩ | ⟨p, hp, h⟩
  · refine Or.inl ⟨b, off, len, cap, p, hp, ?_⟩
    have h1 := h.zR
    have h2 := h.lt
    refine ⟨by simpa using h.zR, h.lt, by rw [hc _ _ (Nat.le_refl _)]; exact h.c0, by rw [hc _ _ (Nat.le_refl _)]; exact h.c1, by simpa using h.fr, ?_, h.l1, h.l2⟩
    intro i hi
    obtain ⟨x, hx, ex⟩ := h.el i hi
    exact ⟨x, hx, by rw [hc _ _ (by omega)]; exact ex⟩
  · refine Or.inr ⟨p, hp, ?_⟩
    obtain ⟨x, cap, e0⟩ := h.c0
    exact ⟨by simpa using h.zR, ⟨x, cap, by rw [hc _ _ (Nat.le_refl _)]; exact e0⟩, by rw [hc _ _ (Nat.le_refl _)]; exact h.c1, by simpa using h.fr⟩
theorem Moved.setCell {R : Nat} {w w' : World} (h : Moved R w w') {a : Addr} (ha : w.heap.size ≤ a.block) (v : Value) : Moved R w (w'.setCell a v) :=
  ⟨h.os, h.tape, h.output, by simpa using h.size, fun i hi hn => (Below.heap_setCell w' a v i (by omega)).trans (h.block i hi hn)⟩
theorem Moved.drew {R : Nat} {w w' : World} (h : Moved R w w') : Moved R w w'.drew := ⟨h.os, h.tape, h.output, h.size, h.block⟩
theorem Moved.alloc' {R : Nat} {w w' : World} (h : Moved R w w') (o : Obj) : Moved R w (w'.alloc o) := h.trans (Moved.of_below ((Below.refl w'.heap.size w').alloc (Nat.le_refl _) o) (Nat.le_refl _))
theorem Moved.alloc (R : Nat) (w : World) (o : Obj) : Moved R w (w.alloc o) := Moved.of_below ((Below.refl w.heap.size w).alloc (Nat.le_refl _) o) (Nat.le_refl _)

end Go.Proofs.YtdhoimjkgicneaaGreatDoor

/- Drawn numbers out of a list, and a box of three cells: of the reader alone. -/
namespace Go.Proofs.YtdhoimjkgicneaaGreatDoor
open Go Go.RowKit

theorem ints_of {w : World} {cs : Array Value} {t : TypeId} (h : ∀ v ∈ cs.toList, ∃ z : Int, v = .int .i64 z) : ∀ i, i < cs.size → ∃ z : Int, (w.alloc (.cells cs t)).cell? ⟨w.heap.size, i, none⟩ = some (.int .i64 z) := by
  intro i hi
  obtain ⟨z, hz⟩ := h cs[i] (by simp)
  refine ⟨z, ?_⟩
  rw [← hz]
  simp [hi]

set_option maxHeartbeats 400000 in
theorem num_any (R c L len cap : Nat) (w : World) (h : Rd R c w) (hc : c ≤ 1000) (hL : L < w.heap.size) (hn : L ≠ R) (l1 : 1 ≤ len) (l2 : len ≤ 1000)
    (hl : ∀ i, i < len → ∃ z : Int, w.cell? ⟨L, i, none⟩ = some (.int .i64 z)) :
    Calls Tryz.prog 26 #[.pointer (some ⟨R, 0, none⟩), .slice (some ⟨L, 0, none⟩) len cap] w fun e w' => ∃ z : Int, e = .returned (.int .i64 z) ∧ Rd R (c + 1) w' ∧ Moved R w w' := by
  go_enter Tryz.func26, Tryz.ntmps26
  go_wp2_with fail
  refine (pick_any R c len w h (by omega) (by omega)).mono ?_
  rintro e w1 ⟨x, rfl, x0, x1, -, rd, mv⟩
  obtain ⟨i, rfl⟩ : ∃ i : Nat, x = i := ⟨x.toNat, by omega⟩
  have hi : i < len := by have := x1 (by omega); omega
  obtain ⟨z, hz⟩ := hl i hi
  have ez : w1.cell? ⟨L, i, none⟩ = some (.int .i64 z) := (mv.cell (p := ⟨L, i, none⟩) hL hn).trans hz
  clear x0 x1 hl hz h
  go_wp2
  go_ret
  exact ⟨z, rfl, rd, mv⟩

theorem num_lit (R c : Nat) (cs : Array Value) (w : World) (q : Nat) (hq : q = w.heap.size) (h : Rd R c w) (hc : c ≤ 1000) (hcs : ∀ v ∈ cs.toList, ∃ z : Int, v = .int .i64 z) (l1 : 1 ≤ cs.size) (l2 : cs.size ≤ 1000) (n : Nat) (hn : n = cs.size) :
    Calls Tryz.prog 26 #[.pointer (some ⟨R, 0, none⟩), .slice (some ⟨q, 0, none⟩) n n] (w.alloc (.cells cs 3)) fun e w' => ∃ z : Int, e = .returned (.int .i64 z) ∧ Rd R (c + 1) w' ∧ Moved R w w' := by
  subst hq hn
  have hs := h.size
  refine (num_any R c w.heap.size cs.size cs.size _ (h.alloc _) hc (by simp) (by omega) l1 l2 (ints_of hcs)).mono ?_
  rintro e w' ⟨z, rfl, rd, mv⟩
  exact ⟨z, rfl, rd, (Moved.alloc R w _).trans mv⟩

theorem boxM {R : Nat} {w w1 : World} {a b c : Value} {t : TypeId} (mv : Moved R (w.alloc (.cells #[a, b, c] t)) w1) (hR : R < w.heap.size) :
    w1.cell? ⟨w.heap.size, 0, none⟩ = some a ∧ w1.cell? ⟨w.heap.size, 1, none⟩ = some b ∧ w1.cell? ⟨w.heap.size, 2, none⟩ = some c ∧
    w1.frozen? ⟨w.heap.size, 0, none⟩ = false ∧ w1.frozen? ⟨w.heap.size, 1, none⟩ = false ∧ w1.frozen? ⟨w.heap.size, 2, none⟩ = false ∧ w.heap.size < w1.heap.size ∧ Moved R w w1 := by
  refine ⟨?_, ?_, ?_, ?_, ?_, ?_, ?_, (Moved.alloc R w _).trans mv⟩
  · rw [mv.cell (p := ⟨w.heap.size, 0, none⟩) (by simp) (by simp; omega)]; simp
  · rw [mv.cell (p := ⟨w.heap.size, 1, none⟩) (by simp) (by simp; omega)]; simp
  · rw [mv.cell (p := ⟨w.heap.size, 2, none⟩) (by simp) (by simp; omega)]; simp
  · rw [mv.frozen (p := ⟨w.heap.size, 0, none⟩) (by simp) (by simp; omega)]; simp
  · rw [mv.frozen (p := ⟨w.heap.size, 1, none⟩) (by simp) (by simp; omega)]; simp
  · rw [mv.frozen (p := ⟨w.heap.size, 2, none⟩) (by simp) (by simp; omega)]; simp
  · have := mv.size; simp at this; omega

theorem set3 {R c c' : Nat} {w w1 : World} (rd : Rd R c w1) (mv : Moved R w w1) (hR : R < w.heap.size) (hc : c ≤ c') (q : Nat) (hq : w.heap.size ≤ q) (a b d : Value) :
    Rd R c' (((w1.setCell ⟨q, 0, none⟩ a).setCell ⟨q, 1, none⟩ b).setCell ⟨q, 2, none⟩ d) ∧ Moved R w (((w1.setCell ⟨q, 0, none⟩ a).setCell ⟨q, 1, none⟩ b).setCell ⟨q, 2, none⟩ d) :=
  ⟨(((rd.mono hc).setCell (by show R < q; omega) _).setCell (by show R < q; omega) _).setCell (by show R < q; omega) _,
    ((mv.setCell (by show _ ≤ q; omega) _).setCell (by show _ ≤ q; omega) _).setCell (by show _ ≤ q; omega) _⟩

end Go.Proofs.YtdhoimjkgicneaaGreatDoor

/- How a return is met. -/
namespace Go.Proofs.YtdhoimjkgicneaaGreatDoor
open Go Go.RowKit

theorem ret_bool {a b : Bool} (h : a = b) : Ending.returned (.bool a) = .returned (.bool b) := by rw [h]
theorem ret_int {k : IntKind} {a b : Int} (h : a = b) : Ending.returned (.int k a) = .returned (.int k b) := by rw [h]
theorem ret_str {a b : ByteArray} (h : a = b) : Ending.returned (.string a) = .returned (.string b) := by rw [h]

end Go.Proofs.YtdhoimjkgicneaaGreatDoor
