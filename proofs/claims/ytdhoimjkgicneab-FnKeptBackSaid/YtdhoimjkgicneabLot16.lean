/- Texts of this proof laid together: HolB0, KepP. -/
import Derived.Test.YtdhoimjkgicneabLot15
import Derived.Test.YtdhoimjkgicneabLot1
/- Bytes are put behind bytes. -/
namespace Go.Proofs.Ytdhoimjkgicneab
open Go Go.RowKit

theorem addr_add (b off j : Nat) : (⟨b, off, none⟩ : Addr).add j = ⟨b, off + j, none⟩ := by unfold Addr.add; split <;> simp_all

/-- Bytes behind bytes that are owned: there is room, or they move. -/
theorem run_app (base : Nat) {v s : Value} {xs ys : List Nat} {w : World} (ty : TypeId) (h : Own base v xs w) (hs : BytesAt s ys w) (hl : xs.length + ys.length ≤ 1000000) (hb : base ≤ w.heap.size) :
    ∃ v' w', (Builtin.append_ #[22, 22] ty #[v, s]).run Try.prog w = .ok v' w' ∧ Own base v' (xs ++ ys) w' ∧ w.grownBy w' v.ownBlock ∧ (v'.ownBlock = v.ownBlock ∨ v'.ownBlock = some w.heap.size) := by
  obtain ⟨i, hi, hz, h1, h2⟩ := info_parts info_byte
  rcases hs with ⟨b, off, cap, rfl, hz', hc, he⟩ | ⟨rfl, rfl⟩
  · obtain ⟨v', w', hr, ho, hg, -, ha⟩ := run_append_own_at (P := Try.prog) w base 22 ty 5 i (.int .u8 0) 1 1 Try.underlying22 hi hz h1 h2 rfl (by decide) v xs.length (bytesV xs) h ⟨b, off, none⟩ ys.length cap (bytesV ys) (by simp [bytesV_len]) (by
        intro j u hj
        rw [bytesV_get] at hj
        cases hy : ys[j]? with
        | none => rw [hy] at hj; simp at hj
        | some x =>
          rw [hy] at hj
          simp at hj
          rw [addr_add, he j x hy, hj]) (bytesV_one ys) (by unfold maxLen; omega) (by omega) hb
    refine ⟨v', w', hr, ?_, hg, ha⟩
    unfold Own
    rw [bytesV_append, List.length_append]
    exact ho
  · refine ⟨v, w, run_append_owned_none (P := Try.prog) (w := w) base 22 ty 5 i 1 Try.underlying22 hi v xs.length (bytesV xs) h, ?_, World.grownBy.refl w _, Or.inl rfl⟩
    simpa using h

theorem list_app (base : Nat) {v s : Value} {xs ys : List Nat} {w : World} {ops : Array Oper} {rest : List Oper} {o : Oper} {a : Act} {Q : Exit → Act → World → Prop} (hgd : o.guard = none) (p x : Operand)
    (ho : o.op = .call { callee := .builtin .append, args := #[p, x], argTypes := #[22, 22] }) (hp : a.eval p = v) (hx : a.eval x = s)
    (h : Own base v xs w) (hs : BytesAt s ys w) (hl : xs.length + ys.length ≤ 1000000) (hb : base ≤ w.heap.size)
    (hK : ∀ v' w', Own base v' (xs ++ ys) w' → w.grownBy w' v.ownBlock → (v'.ownBlock = v.ownBlock ∨ v'.ownBlock = some w.heap.size) → wpList Try.prog ops Q rest (a.put o.dst v') w') :
    wpList Try.prog ops Q (o :: rest) a w := by
  refine wpList_plain hgd fun K hK' => ?_
  obtain ⟨v', w', hr, h2, h3, h4⟩ := run_app base o.type h hs hl hb
  unfold Oper.wp execOp
  simp only [ho, resolve, invoke, builtin, Sem.run_bind, Sem.run_pure, Result.andThen_ok, List.map_toArray, List.map_cons, List.map_nil, hp, hx, hr]
  exact hK' _ _ (hK v' w' h2 h3 h4)

theorem own_nil (base : Nat) (w : World) : Own base (.slice none 0 0) [] w := World.ownsRow_nil w base 5 1

theorem grown_below {w w' : World} {row : Option Nat} {B : Nat} (h : w.grownBy w' row) (hB : B ≤ w.heap.size) (hr : ∀ g, row = some g → B ≤ g) : Below B w w' :=
  ⟨h.os, h.tape, h.output, h.size, fun i hi => h.block i (by omega) (fun e => by have := hr i e.symm; omega)⟩

theorem grown_cell {w w' : World} {row : Option Nat} (h : w.grownBy w' row) {p : Addr} (hp : p.block < w.heap.size) (hn : some p.block ≠ row) : w'.cell? p = w.cell? p := World.cell?_of_block (h.block p.block hp hn)
theorem grown_frozen {w w' : World} {row : Option Nat} (h : w.grownBy w' row) {p : Addr} (hp : p.block < w.heap.size) (hn : some p.block ≠ row) : w'.frozen? p = w.frozen? p := World.frozen?_of_block (h.block p.block hp hn)

theorem Own.below {base B : Nat} {v : Value} {xs : List Nat} {w w' : World} (h : Own base v xs w) (hb : Below B w w') (hB : w.heap.size ≤ B) : Own base v xs w' :=
  h.kept fun g hg => hb.block g (by have := (World.ownsRow.lt h g hg).2; omega)
theorem Own.setCell {base : Nat} {v : Value} {xs : List Nat} {w : World} (h : Own base v xs w) {a : Addr} (ha : v.ownBlock ≠ some a.block) (u : Value) : Own base v xs (w.setCell a u) :=
  h.kept fun g hg => Below.heap_setCell w a u g (fun e => ha (by rw [hg, e]))

theorem bytes_one (b : Nat) (w : World) (t : TypeId) (n : Nat) : BytesAt (.slice (some ⟨w.heap.size, 0, none⟩) 1 n) [b] (w.alloc (.cells #[.int .u8 (b : Int)] t)) ∨ n = 0 := by
  by_cases h : n = 0
  · exact Or.inr h
  · refine Or.inl (Or.inl ⟨w.heap.size, 0, n, rfl, by simp, by simp; omega, fun i x hx => ?_⟩)
    match i, hx with
    | 0, hx => simp at hx; subst hx; simp

end Go.Proofs.Ytdhoimjkgicneab

/- What is kept of a memory, as a memory and as 134 bytes; bytes read as a memory. Of no one program. -/
namespace Go.Proofs.Ytdhoimjkgicneab
open Go Go.RowKit

/-- What is kept of a memory. -/
def keptV (v : MemV) : MemV := ⟨0, 0, v.m / 4294967296 * 4294967296, v.s, 0, v.tD, v.tC, v.cD, v.cL, v.cC, fun i => if i < 16 then 0 else v.d i, fun _ => 0, 0, false, false⟩

theorem kept_m (v : MemV) : (keptV v).m = v.m / 4294967296 * 4294967296 := rfl
theorem kept_d (v : MemV) (i : Nat) : (keptV v).d i = if i < 16 then 0 else v.d i := rfl

theorem keptV_ok {v : MemV} (h : v.Ok) : (keptV v).Ok := by
  refine ⟨by show 0 < _; decide, by show 0 < _; decide, ?_, h.s, by show 0 < _; decide, h.tC, h.cC, fun i => ?_, fun i => ?_, fun i => by show 0 < _; decide, by show 0 < _; decide⟩
  · rw [kept_m]
    have := h.m
    omega
  · rw [kept_d]
    have := h.d1 i
    split <;> omega
  · rw [kept_d]
    have := h.d2 i
    split <;> omega

theorem keptV_twice (v : MemV) : keptV (keptV v) = keptV v := by
  have e1 : v.m / 4294967296 * 4294967296 / 4294967296 * 4294967296 = v.m / 4294967296 * 4294967296 := by omega
  have e2 : (fun i => if i < 16 then (0 : Int) else if i < 16 then 0 else v.d i) = fun i => if i < 16 then 0 else v.d i := by
    funext i; split <;> rfl
  show (⟨_, _, _, _, _, _, _, _, _, _, _, _, _, _, _⟩ : MemV) = ⟨_, _, _, _, _, _, _, _, _, _, _, _, _, _, _⟩
  exact (MemV.mk.injEq ..).mpr ⟨rfl, rfl, e1, rfl, rfl, rfl, rfl, rfl, rfl, rfl, e2, rfl, rfl, rfl, rfl⟩

def bit1 (a : Bool) : Nat := if a then 1 else 0
def bit2 (a b : Bool) : Nat := bit1 a + 2 * bit1 b
theorem bit1_le (a : Bool) : bit1 a ≤ 1 := by cases a <;> decide
theorem bit2_le (a b : Bool) : bit2 a b ≤ 3 := by cases a <;> cases b <;> decide

/-- A register as a number without a sign. -/
def unsg (z : Int) : Nat := (z % 65536).toNat
theorem unsg_lt (z : Int) : unsg z < 65536 := by unfold unsg; omega

/-- Its bytes. -/
def keptByte (v : MemV) (k : Nat) : Nat :=
  if k = 0 then v.m / 4294967296 % 256 else if k = 1 then v.m / 4294967296 / 256 % 256 else if k = 2 then v.m / 4294967296 / 256 / 256 % 256 else if k = 3 then v.m / 4294967296 / 256 / 256 / 256 % 256
  else if k = 4 then v.s % 256 else if k = 5 then v.s / 256 % 256
  else if k < 54 then (if (k - 6) % 3 = 0 then bit1 (v.tD ((k - 6) / 3)) else if (k - 6) % 3 = 1 then v.tC ((k - 6) / 3) % 256 else v.tC ((k - 6) / 3) / 256 % 256)
  else if k < 102 then (if (k - 54) % 3 = 0 then bit2 (v.cD ((k - 54) / 3)) (v.cL ((k - 54) / 3)) else if (k - 54) % 3 = 1 then v.cC ((k - 54) / 3) % 256 else v.cC ((k - 54) / 3) / 256 % 256)
  else (if (k - 102) % 2 = 0 then unsg (v.d (16 + (k - 102) / 2)) % 256 else unsg (v.d (16 + (k - 102) / 2)) / 256 % 256)

theorem keptByte_le (v : MemV) (k : Nat) : keptByte v k ≤ 255 := by
  unfold keptByte
  have h1 := bit1_le (v.tD ((k - 6) / 3))
  have h2 := bit2_le (v.cD ((k - 54) / 3)) (v.cL ((k - 54) / 3))
  repeat' split
  all_goals omega

section
variable (v : MemV) (i : Nat)
theorem kb_t0 (h : i < 16) : keptByte v (6 + i * 3) = bit1 (v.tD i) := by
  unfold keptByte
  rw [if_neg (by omega), if_neg (by omega), if_neg (by omega), if_neg (by omega), if_neg (by omega), if_neg (by omega), if_pos (by omega), if_pos (by omega), show (6 + i * 3 - 6) / 3 = i by omega]
theorem kb_t1 (h : i < 16) : keptByte v (6 + i * 3 + 1) = v.tC i % 256 := by
  unfold keptByte
  rw [if_neg (by omega), if_neg (by omega), if_neg (by omega), if_neg (by omega), if_neg (by omega), if_neg (by omega), if_pos (by omega), if_neg (by omega), if_pos (by omega), show (6 + i * 3 + 1 - 6) / 3 = i by omega]
theorem kb_t2 (h : i < 16) : keptByte v (6 + i * 3 + 2) = v.tC i / 256 % 256 := by
  unfold keptByte
  rw [if_neg (by omega), if_neg (by omega), if_neg (by omega), if_neg (by omega), if_neg (by omega), if_neg (by omega), if_pos (by omega), if_neg (by omega), if_neg (by omega), show (6 + i * 3 + 2 - 6) / 3 = i by omega]
theorem kb_c0 (h : i < 16) : keptByte v (54 + i * 3) = bit2 (v.cD i) (v.cL i) := by
  unfold keptByte
  rw [if_neg (by omega), if_neg (by omega), if_neg (by omega), if_neg (by omega), if_neg (by omega), if_neg (by omega), if_neg (by omega), if_pos (by omega), if_pos (by omega), show (54 + i * 3 - 54) / 3 = i by omega]
theorem kb_c1 (h : i < 16) : keptByte v (54 + i * 3 + 1) = v.cC i % 256 := by
  unfold keptByte
  rw [if_neg (by omega), if_neg (by omega), if_neg (by omega), if_neg (by omega), if_neg (by omega), if_neg (by omega), if_neg (by omega), if_pos (by omega), if_neg (by omega), if_pos (by omega), show (54 + i * 3 + 1 - 54) / 3 = i by omega]
theorem kb_c2 (h : i < 16) : keptByte v (54 + i * 3 + 2) = v.cC i / 256 % 256 := by
  unfold keptByte
  rw [if_neg (by omega), if_neg (by omega), if_neg (by omega), if_neg (by omega), if_neg (by omega), if_neg (by omega), if_neg (by omega), if_pos (by omega), if_neg (by omega), if_neg (by omega), show (54 + i * 3 + 2 - 54) / 3 = i by omega]
theorem kb_0 : keptByte v 0 = v.m / 4294967296 % 256 := by unfold keptByte; rw [if_pos rfl]
theorem kb_1 : keptByte v 1 = v.m / 4294967296 / 256 % 256 := by unfold keptByte; rw [if_neg (by decide), if_pos rfl]
theorem kb_2 : keptByte v 2 = v.m / 4294967296 / 256 / 256 % 256 := by unfold keptByte; rw [if_neg (by decide), if_neg (by decide), if_pos rfl]
theorem kb_3 : keptByte v 3 = v.m / 4294967296 / 256 / 256 / 256 % 256 := by unfold keptByte; rw [if_neg (by decide), if_neg (by decide), if_neg (by decide), if_pos rfl]
theorem kb_4 : keptByte v 4 = v.s % 256 := by unfold keptByte; rw [if_neg (by decide), if_neg (by decide), if_neg (by decide), if_neg (by decide), if_pos rfl]
theorem kb_5 : keptByte v 5 = v.s / 256 % 256 := by unfold keptByte; rw [if_neg (by decide), if_neg (by decide), if_neg (by decide), if_neg (by decide), if_neg (by decide), if_pos rfl]
theorem kb_d0 : keptByte v (102 + i * 2) = unsg (v.d (16 + i)) % 256 := by
  unfold keptByte
  rw [if_neg (by omega), if_neg (by omega), if_neg (by omega), if_neg (by omega), if_neg (by omega), if_neg (by omega), if_neg (by omega), if_neg (by omega), if_pos (by omega), show 16 + (102 + i * 2 - 102) / 2 = 16 + i by omega]
theorem kb_d1 : keptByte v (102 + i * 2 + 1) = unsg (v.d (16 + i)) / 256 % 256 := by
  unfold keptByte
  rw [if_neg (by omega), if_neg (by omega), if_neg (by omega), if_neg (by omega), if_neg (by omega), if_neg (by omega), if_neg (by omega), if_neg (by omega), if_neg (by omega), show 16 + (102 + i * 2 + 1 - 102) / 2 = 16 + i by omega]
end

/-- The first of its bytes. -/
def pre (v : MemV) (n : Nat) : List Nat := (List.range n).map (keptByte v)
theorem pre_len (v : MemV) (n : Nat) : (pre v n).length = n := by simp [pre]
theorem pre_succ (v : MemV) (n : Nat) : pre v n ++ [keptByte v n] = pre v (n + 1) := by simp [pre, List.range_succ]
theorem pre_le (v : MemV) (n : Nat) : ∀ x ∈ pre v n, x ≤ 255 := by
  intro x hx
  simp only [pre, List.mem_map] at hx
  obtain ⟨k, -, rfl⟩ := hx
  exact keptByte_le v k
theorem pre_get (v : MemV) {n k : Nat} (h : k < n) : (pre v n)[k]? = some (keptByte v k) := by simp [pre, h]
theorem pre_two (v : MemV) (n : Nat) {x y : Nat} (hx : keptByte v n = x) (hy : keptByte v (n + 1) = y) : pre v n ++ [x, y] = pre v (n + 2) := by
  rw [← hx, ← hy, ← pre_succ v (n + 1), ← pre_succ v n]; simp

/-- A number of sixteen bits with a sign. -/
def sgn (n : Nat) : Int := if n < 32768 then (n : Int) else (n : Int) - 65536

/-- Bytes read. -/
def scanV (f : Nat → Nat) : MemV :=
  ⟨0, 0, (f 0 + 256 * f 1 + 65536 * f 2 + 16777216 * f 3) * 4294967296, f 4 + 256 * f 5, 0, fun i => decide (f (6 + i * 3) % 2 = 1), fun i => f (6 + i * 3 + 1) + 256 * f (6 + i * 3 + 2),
    fun i => decide (f (54 + i * 3) % 2 = 1), fun i => decide (f (54 + i * 3) / 2 % 2 = 1), fun i => f (54 + i * 3 + 1) + 256 * f (54 + i * 3 + 2),
    fun i => if i < 16 then 0 else sgn (f (102 + (i - 16) * 2) + 256 * f (102 + (i - 16) * 2 + 1)), fun _ => 0, 0, false, false⟩

section
variable (f : Nat → Nat) (i : Nat)
theorem scan_m : (scanV f).m = (f 0 + 256 * f 1 + 65536 * f 2 + 16777216 * f 3) * 4294967296 := rfl
theorem scan_s : (scanV f).s = f 4 + 256 * f 5 := rfl
theorem scan_tD : (scanV f).tD i = decide (f (6 + i * 3) % 2 = 1) := rfl
theorem scan_tC : (scanV f).tC i = f (6 + i * 3 + 1) + 256 * f (6 + i * 3 + 2) := rfl
theorem scan_cD : (scanV f).cD i = decide (f (54 + i * 3) % 2 = 1) := rfl
theorem scan_cL : (scanV f).cL i = decide (f (54 + i * 3) / 2 % 2 = 1) := rfl
theorem scan_cC : (scanV f).cC i = f (54 + i * 3 + 1) + 256 * f (54 + i * 3 + 2) := rfl
theorem scan_d : (scanV f).d i = if i < 16 then 0 else sgn (f (102 + (i - 16) * 2) + 256 * f (102 + (i - 16) * 2 + 1)) := rfl
end

theorem sgn_bd {n : Nat} (h : n < 65536) : -32768 ≤ sgn n ∧ sgn n ≤ 32767 := by unfold sgn; split <;> omega
theorem unsg_sgn {n : Nat} (h : n < 65536) : unsg (sgn n) = n := by unfold unsg sgn; split <;> omega
theorem sgn_unsg {z : Int} (h1 : -32768 ≤ z) (h2 : z ≤ 32767) : sgn (unsg z) = z := by unfold unsg sgn; split <;> omega

theorem scanV_ok {f : Nat → Nat} (h : ∀ k, f k ≤ 255) : (scanV f).Ok := by
  have b2 : ∀ i j, f i + 256 * f j < 65536 := fun i j => by have := h i; have := h j; omega
  refine ⟨by show 0 < _; decide, by show 0 < _; decide, ?_, b2 _ _, by show 0 < _; decide, fun i => b2 _ _, fun i => b2 _ _, fun i => ?_, fun i => ?_, fun i => by show 0 < _; decide, by show 0 < _; decide⟩
  · rw [scan_m]
    have := h 0; have := h 1; have := h 2; have := h 3
    omega
  · rw [scan_d]
    split
    · omega
    · exact (sgn_bd (b2 _ _)).1
  · rw [scan_d]
    split
    · omega
    · exact (sgn_bd (b2 _ _)).2

/-- No first byte is too large. -/
def Flags (f : Nat → Nat) : Prop := ∀ i, i < 16 → f (6 + i * 3) ≤ 1 ∧ f (54 + i * 3) ≤ 3

theorem bit1_dec (n : Nat) : bit1 (decide (n % 2 = 1)) = n % 2 := by unfold bit1; by_cases h : n % 2 = 1 <;> simp [h]; omega
theorem bit2_dec (n : Nat) : bit2 (decide (n % 2 = 1)) (decide (n / 2 % 2 = 1)) = n % 4 := by
  unfold bit2
  rw [bit1_dec, show bit1 (decide (n / 2 % 2 = 1)) = n / 2 % 2 from bit1_dec (n / 2)]
  omega

/-- What was read is written as it was, where no first byte is too large. -/
theorem scan_make {f : Nat → Nat} (h : ∀ k, f k ≤ 255) : (∀ k, k < 134 → keptByte (scanV f) k = f k) ↔ Flags f := by
  have t0 : ∀ i, i < 16 → keptByte (scanV f) (6 + i * 3) = f (6 + i * 3) % 2 := fun i hi => by rw [kb_t0 _ i hi, scan_tD]; exact bit1_dec _
  have c0 : ∀ i, i < 16 → keptByte (scanV f) (54 + i * 3) = f (54 + i * 3) % 4 := fun i hi => by rw [kb_c0 _ i hi, scan_cD, scan_cL]; exact bit2_dec _
  constructor
  · intro hk i hi
    have h1 := hk (6 + i * 3) (by omega)
    have h2 := hk (54 + i * 3) (by omega)
    rw [t0 i hi] at h1
    rw [c0 i hi] at h2
    omega
  · intro hF k hk
    have hm : (scanV f).m / 4294967296 = f 0 + 256 * f 1 + 65536 * f 2 + 16777216 * f 3 := by
      rw [scan_m]
      omega
    have b0 := h 0; have b1 := h 1; have b2 := h 2; have b3 := h 3; have b4 := h 4; have b5 := h 5
    by_cases k0 : k = 0
    · subst k0; rw [kb_0, hm]; omega
    by_cases k1 : k = 1
    · subst k1; rw [kb_1, hm]; omega
    by_cases k2 : k = 2
    · subst k2; rw [kb_2, hm]; omega
    by_cases k3 : k = 3
    · subst k3; rw [kb_3, hm]; omega
    by_cases k4 : k = 4
    · subst k4; rw [kb_4, scan_s]; omega
    by_cases k5 : k = 5
    · subst k5; rw [kb_5, scan_s]; omega
    by_cases k6 : k < 54
    · obtain ⟨i, j, hi, hj, rfl⟩ : ∃ i j, i < 16 ∧ j < 3 ∧ k = 6 + i * 3 + j := ⟨(k - 6) / 3, (k - 6) % 3, by omega, by omega, by omega⟩
      have hj : j = 0 ∨ j = 1 ∨ j = 2 := by omega
      have x1 := h (6 + i * 3 + 1); have x2 := h (6 + i * 3 + 2)
      rcases hj with rfl | rfl | rfl
      · rw [Nat.add_zero, t0 i hi]; have := (hF i hi).1; omega
      · rw [kb_t1 _ i hi, scan_tC]; omega
      · rw [kb_t2 _ i hi, scan_tC]; omega
    by_cases k7 : k < 102
    · obtain ⟨i, j, hi, hj, rfl⟩ : ∃ i j, i < 16 ∧ j < 3 ∧ k = 54 + i * 3 + j := ⟨(k - 54) / 3, (k - 54) % 3, by omega, by omega, by omega⟩
      have hj : j = 0 ∨ j = 1 ∨ j = 2 := by omega
      have x1 := h (54 + i * 3 + 1); have x2 := h (54 + i * 3 + 2)
      rcases hj with rfl | rfl | rfl
      · rw [Nat.add_zero, c0 i hi]; have := (hF i hi).2; omega
      · rw [kb_c1 _ i hi, scan_cC]; omega
      · rw [kb_c2 _ i hi, scan_cC]; omega
    · obtain ⟨i, j, hi, hj, rfl⟩ : ∃ i j, i < 16 ∧ j < 2 ∧ k = 102 + i * 2 + j := ⟨(k - 102) / 2, (k - 102) % 2, by omega, by omega, by omega⟩
      have x1 := h (102 + i * 2); have x2 := h (102 + i * 2 + 1)
      have hd : unsg ((scanV f).d (16 + i)) = f (102 + i * 2) + 256 * f (102 + i * 2 + 1) := by
        rw [scan_d, if_neg (by omega), show 16 + i - 16 = i by omega, unsg_sgn (by omega)]
      have hj : j = 0 ∨ j = 1 := by omega
      rcases hj with rfl | rfl
      · rw [Nat.add_zero, kb_d0, hd]; omega
      · rw [kb_d1, hd]; omega

/-- What was written is read as what is kept. -/
theorem make_scan {v : MemV} (hv : v.Ok) {f : Nat → Nat} (hf : ∀ k, k < 134 → f k = keptByte v k) {k : Nat} (hk : k < 136) : (scanV f).cell k = (keptV v).cell k := by
  have e0 : (scanV f).m = (keptV v).m := by
    have h0 := hf 0 (by omega)
    have h1 := hf 1 (by omega)
    have h2 := hf 2 (by omega)
    have h3 := hf 3 (by omega)
    rw [kb_0] at h0
    rw [kb_1] at h1
    rw [kb_2] at h2
    rw [kb_3] at h3
    have := hv.m
    rw [scan_m, h0, h1, h2, h3, kept_m]
    omega
  have e1 : (scanV f).s = v.s := by
    have h0 := hf 4 (by omega)
    have h1 := hf 5 (by omega)
    rw [kb_4] at h0
    rw [kb_5] at h1
    rw [scan_s]
    have := hv.s
    omega
  have e2 : ∀ i, i < 16 → (scanV f).tD i = v.tD i := fun i hi => by
    rw [scan_tD, hf _ (by omega), kb_t0 v i hi]
    cases v.tD i <;> rfl
  have e3 : ∀ i, i < 16 → (scanV f).tC i = v.tC i := fun i hi => by
    rw [scan_tC, hf _ (by omega), hf _ (by omega), kb_t1 v i hi, kb_t2 v i hi]
    have := hv.tC i
    omega
  have e4 : ∀ i, i < 16 → (scanV f).cD i = v.cD i := fun i hi => by
    rw [scan_cD, hf _ (by omega), kb_c0 v i hi]
    cases v.cD i <;> cases v.cL i <;> rfl
  have e5 : ∀ i, i < 16 → (scanV f).cL i = v.cL i := fun i hi => by
    rw [scan_cL, hf _ (by omega), kb_c0 v i hi]
    cases v.cD i <;> cases v.cL i <;> rfl
  have e6 : ∀ i, i < 16 → (scanV f).cC i = v.cC i := fun i hi => by
    rw [scan_cC, hf _ (by omega), hf _ (by omega), kb_c1 v i hi, kb_c2 v i hi]
    have := hv.cC i
    omega
  have e7 : ∀ i, i < 32 → (scanV f).d i = (keptV v).d i := fun i hi => by
    rw [scan_d, kept_d]
    by_cases h : i < 16
    · rw [if_pos h, if_pos h]
    · rw [if_neg h, if_neg h, hf _ (by omega), hf _ (by omega), kb_d0, kb_d1, show 16 + (i - 16) = i by omega, show unsg (v.d i) % 256 + 256 * (unsg (v.d i) / 256 % 256) = unsg (v.d i) by have := unsg_lt (v.d i); omega]
      exact sgn_unsg (hv.d1 i) (hv.d2 i)
  unfold MemV.cell
  by_cases k0 : k = 0
  · rw [if_pos k0, if_pos k0]; rfl
  rw [if_neg k0, if_neg k0]
  by_cases k1 : k = 1
  · rw [if_pos k1, if_pos k1]; rfl
  rw [if_neg k1, if_neg k1]
  by_cases k2 : k = 2
  · rw [if_pos k2, if_pos k2, e0]
  rw [if_neg k2, if_neg k2]
  by_cases k3 : k = 3
  · rw [if_pos k3, if_pos k3, e1]; rfl
  rw [if_neg k3, if_neg k3]
  by_cases k4 : k = 4
  · rw [if_pos k4, if_pos k4]; rfl
  rw [if_neg k4, if_neg k4]
  by_cases k5 : k < 37
  · rw [if_pos k5, if_pos k5, e2 _ (by omega), e3 _ (by omega)]; rfl
  rw [if_neg k5, if_neg k5]
  by_cases k6 : k < 85
  · rw [if_pos k6, if_pos k6, e4 _ (by omega), e5 _ (by omega), e6 _ (by omega)]; rfl
  rw [if_neg k6, if_neg k6]
  by_cases k7 : k < 117
  · rw [if_pos k7, if_pos k7, e7 _ (by omega)]
  rw [if_neg k7, if_neg k7]
  by_cases k8 : k < 133
  · rw [if_pos k8, if_pos k8]; rfl
  rw [if_neg k8, if_neg k8]
  have a1 : (scanV f).time = (keptV v).time := rfl
  have a2 : (scanV f).ran = (keptV v).ran := rfl
  have a3 : (scanV f).fault = (keptV v).fault := rfl
  rw [a1, a2, a3]

theorem make_scan_row {v : MemV} (hv : v.Ok) {f : Nat → Nat} (hf : ∀ k, k < 134 → f k = keptByte v k) : (scanV f).row = (keptV v).row := by
  have e : (List.range 136).map (scanV f).cell = (List.range 136).map (keptV v).cell := List.map_congr_left fun k hk => make_scan hv hf (List.mem_range.1 hk)
  unfold MemV.row
  rw [e]

end Go.Proofs.Ytdhoimjkgicneab
