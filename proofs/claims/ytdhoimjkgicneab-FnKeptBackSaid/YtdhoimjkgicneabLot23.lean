/- Texts of this proof laid together: KepG, MsA0. -/
import Derived.Test.YtdhoimjkgicneabLot17
import Derived.Test.YtdhoimjkgicneabLot20
import Derived.Laws.Bits64b
import Derived.Test.YtdhoimjkgicneabLot2
import Derived.ChangeKeysEq
import Derived.Laws.StructEq
/- Numbers taken from bytes, as both sides take them. -/
namespace Go.Proofs.Ytdhoimjkgicneab
open Go Go.RowKit

theorem or_u16 (a b : Nat) (ha : a < 65536) (hb : b < 65536) : bits .or .u16 (a : Int) (b : Int) = ((a ||| b : Nat) : Int) := by
  have hx : a ||| b < 2 ^ 16 := Nat.or_lt_two_pow (by omega) (by omega)
  have h1 : (BitVec.ofInt 16 (a : Int)).toNat = a := by
    rw [BitVec.ofInt_natCast, BitVec.toNat_ofNat]; exact Nat.mod_eq_of_lt (by omega)
  have h2 : (BitVec.ofInt 16 (b : Int)).toNat = b := by
    rw [BitVec.ofInt_natCast, BitVec.toNat_ofNat]; exact Nat.mod_eq_of_lt (by omega)
  show IntKind.u16.wrap ((BitVec.ofInt 16 (a : Int) ||| BitVec.ofInt 16 (b : Int)).toNat : Int) = _
  rw [BitVec.toNat_or, h1, h2]
  show ((a ||| b : Nat) : Int) % 65536 = _
  omega
theorem or_u32 (a b : Nat) (ha : a < 4294967296) (hb : b < 4294967296) : bits .or .u32 (a : Int) (b : Int) = ((a ||| b : Nat) : Int) := by
  have hx : a ||| b < 2 ^ 32 := Nat.or_lt_two_pow (by omega) (by omega)
  have h1 : (BitVec.ofInt 32 (a : Int)).toNat = a := by
    rw [BitVec.ofInt_natCast, BitVec.toNat_ofNat]; exact Nat.mod_eq_of_lt (by omega)
  have h2 : (BitVec.ofInt 32 (b : Int)).toNat = b := by
    rw [BitVec.ofInt_natCast, BitVec.toNat_ofNat]; exact Nat.mod_eq_of_lt (by omega)
  show IntKind.u32.wrap ((BitVec.ofInt 32 (a : Int) ||| BitVec.ofInt 32 (b : Int)).toNat : Int) = _
  rw [BitVec.toNat_or, h1, h2]
  show ((a ||| b : Nat) : Int) % 4294967296 = _
  omega

theorem or_add (i a b : Nat) (h : a < 2 ^ i) : a ||| (b * 2 ^ i) = a + b * 2 ^ i := by
  rw [Nat.or_comm, Nat.mul_comm, ← Nat.two_pow_add_eq_or_of_lt h b, Nat.add_comm]

theorem and_one : ∀ x : Nat, x ≤ 255 → bits .and .u8 (x : Int) 1 = ((x % 2 : Nat) : Int) := by
  have h : ∀ x : Fin 256, bits .and .u8 ((x.val : Nat) : Int) 1 = ((x.val % 2 : Nat) : Int) := by decide +kernel
  exact fun x hx => h ⟨x, by omega⟩
theorem and_two : ∀ x : Nat, x ≤ 255 → bits .and .u8 (x : Int) 2 = ((x / 2 % 2 * 2 : Nat) : Int) := by
  have h : ∀ x : Fin 256, bits .and .u8 ((x.val : Nat) : Int) 2 = ((x.val / 2 % 2 * 2 : Nat) : Int) := by decide +kernel
  exact fun x hx => h ⟨x, by omega⟩

/-- One byte more of a number. -/
theorem step_u16 {a y i : Nat} (hi : i < 2) (ha : a < 256 ^ i) (hy : y ≤ 255) : ∃ s z : Nat, (8 * (i : Int)) = (s : Int) ∧ s ≤ 16 ∧ IntKind.u16.wrap ((y : Int) * 2 ^ s) = (z : Int) ∧ bits .or .u16 (a : Int) (z : Int) = ((a + y * 256 ^ i : Nat) : Int) := by
  have e : 2 ^ (8 * i) = 256 ^ i := by rw [Nat.pow_mul]
  have hi : i = 0 ∨ i = 1 := by omega
  have hz : y * 2 ^ (8 * i) < 65536 := by rcases hi with rfl | rfl <;> simp <;> omega
  have ha2 : a < 65536 := by rcases hi with rfl | rfl <;> simp at ha <;> omega
  refine ⟨8 * i, y * 2 ^ (8 * i), by omega, by omega, ?_, ?_⟩
  · show ((y : Int) * 2 ^ (8 * i)) % 65536 = _
    rw [show ((y : Int) * 2 ^ (8 * i)) = ((y * 2 ^ (8 * i) : Nat) : Int) by simp]
    omega
  · rw [or_u16 _ _ ha2 hz, or_add _ _ _ (by rw [e]; exact ha), e]
theorem step_u32 {a y i : Nat} (hi : i < 4) (ha : a < 256 ^ i) (hy : y ≤ 255) : ∃ s z : Nat, (8 * (i : Int)) = (s : Int) ∧ s ≤ 32 ∧ IntKind.u32.wrap ((y : Int) * 2 ^ s) = (z : Int) ∧ bits .or .u32 (a : Int) (z : Int) = ((a + y * 256 ^ i : Nat) : Int) := by
  have e : 2 ^ (8 * i) = 256 ^ i := by rw [Nat.pow_mul]
  have hi : i = 0 ∨ i = 1 ∨ i = 2 ∨ i = 3 := by omega
  have hz : y * 2 ^ (8 * i) < 4294967296 := by rcases hi with rfl | rfl | rfl | rfl <;> simp <;> omega
  have ha2 : a < 4294967296 := by rcases hi with rfl | rfl | rfl | rfl <;> simp at ha <;> omega
  refine ⟨8 * i, y * 2 ^ (8 * i), by omega, by omega, ?_, ?_⟩
  · show ((y : Int) * 2 ^ (8 * i)) % 4294967296 = _
    rw [show ((y : Int) * 2 ^ (8 * i)) = ((y * 2 ^ (8 * i) : Nat) : Int) by simp]
    omega
  · rw [or_u32 _ _ ha2 hz, or_add _ _ _ (by rw [e]; exact ha), e]

/-- A number of bytes, the lowest first. -/
def num (f : Nat → Nat) : Nat → Nat
  | 0 => 0
  | n + 1 => num f n + f n * 256 ^ n
theorem num_lt {f : Nat → Nat} (hf : ∀ k, f k ≤ 255) : ∀ n, num f n < 256 ^ n
  | 0 => by simp [num]
  | n + 1 => by
    have h1 := num_lt hf n
    have h2 := hf n
    have h3 : f n * 256 ^ n ≤ 255 * 256 ^ n := Nat.mul_le_mul_right _ h2
    rw [num, Nat.pow_succ]
    omega

/-- A slice from place l on. -/
def cutV (l : Nat) : Value → Value
  | .slice (some ⟨b, off, none⟩) n cap => .slice (if cap = l then some ⟨b, off, none⟩ else some ⟨b, off + l, none⟩) (n - l) (cap - l)
  | v => v

theorem cutV_slice (l b off n cap : Nat) : cutV l (.slice (some ⟨b, off, none⟩) n cap) = .slice (if cap = l then some ⟨b, off, none⟩ else some ⟨b, off + l, none⟩) (n - l) (cap - l) := rfl

theorem cut_at {v : Value} {xs : List Nat} {w : World} (h : BytesAt v xs w) (l : Nat) (hl : l ≤ xs.length) : BytesAt (cutV l v) (xs.drop l) w := by
  rcases h with ⟨b, off, cap, rfl, hz, hc, he⟩ | ⟨rfl, rfl⟩
  · refine Or.inl ?_
    rw [cutV_slice]
    by_cases hq : cap = l
    · rw [if_pos hq]
      refine ⟨b, off, cap - l, by simp, hz, by simp; omega, fun i x hx => ?_⟩
      have : xs.drop l = [] := List.drop_of_length_le (by omega)
      rw [this] at hx
      simp at hx
    · rw [if_neg hq]
      refine ⟨b, off + l, cap - l, by simp, hz, by simp; omega, fun i x hx => ?_⟩
      rw [List.getElem?_drop] at hx
      have := he (l + i) x hx
      rw [show off + l + i = off + (l + i) by omega]
      exact this
  · exact Or.inr ⟨by simp, rfl⟩

set_option maxRecDepth 100000 in
set_option maxHeartbeats 800000 in
theorem in2 (v : Value) (xs : List Nat) (w : World) (f : Nat → Nat) (h : BytesAt v xs w) (hf : ∀ i x, xs[i]? = some x → f i = x) (hx : ∀ k, f k ≤ 255) (hl : 2 ≤ xs.length) (hl2 : xs.length ≤ 1000) :
    Calls Try.prog 73 #[v] w fun e w' => e = .returned (.tuple #[.int .u16 (num f 2 : Nat), cutV 2 v]) ∧ Below w.heap.size w w' := by
  obtain ⟨aa, cap, rfl⟩ := h.len
  obtain ⟨b, off, rfl, hz, -⟩ := h.cellAt (i := 0) (by omega)
  have hcap : xs.length ≤ cap := by
    rcases h with ⟨b', off', cap', e, hz, hc', he⟩ | ⟨rfl, e⟩
    · simp only [Value.slice.injEq] at e; obtain ⟨-, -, rfl⟩ := e; exact hc'
    · simp at hl
  obtain ⟨n, hn⟩ : ∃ n, n = xs.length := ⟨_, rfl⟩
  have H : Hid (BytesAt (.slice (some ⟨b, off, none⟩) n cap) xs w ∧ n = xs.length) := ⟨by rw [hn]; exact h, hn⟩
  rw [← hn] at hl hl2 hcap ⊢
  clear h hn
  have hcap2 : ¬ cap = 0 := by omega
  have i2 : (2 : Int) ≤ (cap : Int) := by omega
  have i3 : (2 : Int) ≤ (n : Int) := by omega
  go_enter Try.func73, Try.ntmps73
  go_wp2_with fail
  refine (width2 w).mono ?_
  rintro e w1 ⟨rfl, rfl⟩
  go_wp2_with fail
  go_loopw [4, 13] (fun wv iv wr => ∃ i : Nat, i ≤ 2 ∧ iv = .int .i64 i ∧ wv = .int .u16 ((num f i : Nat) : Int) ∧ wr = w1) (fun _ iv _ => 2 - (intOf iv).toNat)
  case atStart => exact ⟨0, by omega, rfl, rfl, rfl⟩
  case round =>
    obtain ⟨i, hi, rfl, rfl, rfl⟩ := hrel
    by_cases hin : i < 2
    · have hin' : (i : Int) < 2 := by omega
      obtain ⟨y, hy⟩ : ∃ y, y = f i := ⟨_, rfl⟩
      obtain ⟨b', off', e, -, c0⟩ := H.out.1.cellAt (i := i) (by rw [← H.out.2]; omega)
      simp only [Option.some.injEq, Addr.mk.injEq] at e
      obtain ⟨rfl, rfl, -⟩ := e
      rw [show xs[i]'(by rw [← H.out.2]; omega) = y by rw [hy]; exact (hf i _ (List.getElem?_eq_getElem _)).symm] at c0
      have y1 : y ≤ 255 := hy ▸ hx i
      obtain ⟨a, ha⟩ : ∃ a, a = num f i := ⟨_, rfl⟩
      obtain ⟨s, z, s1, s2, s3, s4⟩ := step_u16 (a := a) (y := y) hin (ha ▸ num_lt hx i) y1
      have s2' : (s : Int) ≤ 16 := by omega
      have y2 : IntKind.u16.wrap (y : Int) = (y : Int) := by show (y : Int) % 65536 = _; omega
      have y3 : (y : Int) % 65536 = (y : Int) := by omega
      have HN : Hid (num f (i + 1) = a + y * 256 ^ i) := by rw [ha, hy]; rfl
      obtain ⟨c, hc⟩ : ∃ c, c = a + y * 256 ^ i := ⟨_, rfl⟩
      rw [← hc] at s4 HN
      rw [← ha]
      clear ha hy hc
      go_wp2_with fail
      go_roundw
      case rel => exact ⟨i + 1, by omega, by go_num, by rw [HN.out], trivial⟩
      case measure => simp [intOf]; omega
    · obtain rfl : i = 2 := by omega
      by_cases hq : cap = 2
      · subst hq
        go_wp2_with fail
        go_region
        go_wp2_with fail
        exact bodyPost_ret (v := .tuple #[.int .u16 (num f 2 : Nat), cutV 2 (.slice (some ⟨b, off, none⟩) n 2)]) (by simp [results, Try.results73, go_sem, cutV]; omega) rfl ⟨rfl, (Below.refl _ _).drew⟩
      · go_wp2_with fail
        go_region
        go_wp2_with fail
        exact bodyPost_ret (v := .tuple #[.int .u16 (num f 2 : Nat), cutV 2 (.slice (some ⟨b, off, none⟩) n cap)]) (by simp [results, Try.results73, go_sem, cutV, hq]) rfl ⟨rfl, (Below.refl _ _).drew⟩

set_option maxRecDepth 100000 in
set_option maxHeartbeats 800000 in
theorem in4 (v : Value) (xs : List Nat) (w : World) (f : Nat → Nat) (h : BytesAt v xs w) (hf : ∀ i x, xs[i]? = some x → f i = x) (hx : ∀ k, f k ≤ 255) (hl : 4 ≤ xs.length) (hl2 : xs.length ≤ 1000) :
    Calls Try.prog 72 #[v] w fun e w' => e = .returned (.tuple #[.int .u32 (num f 4 : Nat), cutV 4 v]) ∧ Below w.heap.size w w' := by
  obtain ⟨aa, cap, rfl⟩ := h.len
  obtain ⟨b, off, rfl, hz, -⟩ := h.cellAt (i := 0) (by omega)
  have hcap : xs.length ≤ cap := by
    rcases h with ⟨b', off', cap', e, hz, hc', he⟩ | ⟨rfl, e⟩
    · simp only [Value.slice.injEq] at e; obtain ⟨-, -, rfl⟩ := e; exact hc'
    · simp at hl
  obtain ⟨n, hn⟩ : ∃ n, n = xs.length := ⟨_, rfl⟩
  have H : Hid (BytesAt (.slice (some ⟨b, off, none⟩) n cap) xs w ∧ n = xs.length) := ⟨by rw [hn]; exact h, hn⟩
  rw [← hn] at hl hl2 hcap ⊢
  clear h hn
  have hcap2 : ¬ cap = 0 := by omega
  have i2 : (4 : Int) ≤ (cap : Int) := by omega
  have i3 : (4 : Int) ≤ (n : Int) := by omega
  go_enter Try.func72, Try.ntmps72
  go_wp2_with fail
  refine (width4 w).mono ?_
  rintro e w1 ⟨rfl, rfl⟩
  go_wp2_with fail
  go_loopw [4, 13] (fun wv iv wr => ∃ i : Nat, i ≤ 4 ∧ iv = .int .i64 i ∧ wv = .int .u32 ((num f i : Nat) : Int) ∧ wr = w1) (fun _ iv _ => 4 - (intOf iv).toNat)
  case atStart => exact ⟨0, by omega, rfl, rfl, rfl⟩
  case round =>
    obtain ⟨i, hi, rfl, rfl, rfl⟩ := hrel
    by_cases hin : i < 4
    · have hin' : (i : Int) < 4 := by omega
      obtain ⟨y, hy⟩ : ∃ y, y = f i := ⟨_, rfl⟩
      obtain ⟨b', off', e, -, c0⟩ := H.out.1.cellAt (i := i) (by rw [← H.out.2]; omega)
      simp only [Option.some.injEq, Addr.mk.injEq] at e
      obtain ⟨rfl, rfl, -⟩ := e
      rw [show xs[i]'(by rw [← H.out.2]; omega) = y by rw [hy]; exact (hf i _ (List.getElem?_eq_getElem _)).symm] at c0
      have y1 : y ≤ 255 := hy ▸ hx i
      obtain ⟨a, ha⟩ : ∃ a, a = num f i := ⟨_, rfl⟩
      obtain ⟨s, z, s1, s2, s3, s4⟩ := step_u32 (a := a) (y := y) hin (ha ▸ num_lt hx i) y1
      have s2' : (s : Int) ≤ 32 := by omega
      have y2 : IntKind.u32.wrap (y : Int) = (y : Int) := by show (y : Int) % 4294967296 = _; omega
      have y3 : (y : Int) % 4294967296 = (y : Int) := by omega
      have HN : Hid (num f (i + 1) = a + y * 256 ^ i) := by rw [ha, hy]; rfl
      obtain ⟨c, hc⟩ : ∃ c, c = a + y * 256 ^ i := ⟨_, rfl⟩
      rw [← hc] at s4 HN
      rw [← ha]
      clear ha hy hc
      go_wp2_with fail
      go_roundw
      case rel => exact ⟨i + 1, by omega, by go_num, by rw [HN.out], trivial⟩
      case measure => simp [intOf]; omega
    · obtain rfl : i = 4 := by omega
      by_cases hq : cap = 4
      · subst hq
        go_wp2_with fail
        go_region
        go_wp2_with fail
        exact bodyPost_ret (v := .tuple #[.int .u32 (num f 4 : Nat), cutV 4 (.slice (some ⟨b, off, none⟩) n 4)]) (by simp [results, Try.results72, go_sem, cutV]; omega) rfl ⟨rfl, (Below.refl _ _).drew⟩
      · go_wp2_with fail
        go_region
        go_wp2_with fail
        exact bodyPost_ret (v := .tuple #[.int .u32 (num f 4 : Nat), cutV 4 (.slice (some ⟨b, off, none⟩) n cap)]) (by simp [results, Try.results72, go_sem, cutV, hq]) rfl ⟨rfl, (Below.refl _ _).drew⟩

end Go.Proofs.Ytdhoimjkgicneab

/- How rows of cells are compared: arrays of numbers, and whole memories without real numbers. -/
namespace Go.Proofs.Ytdhoimjkgicneab
open Go Go.RowKit

section
variable {P : Program} (w : World)

/-- A part of two rows is compared. -/
def EqPart (P : Program) (d : Nat) (xs ys : Array Value) (t : TypeId) (off : Nat) (w : World) (Q : Prop) : Prop :=
  ∃ (a c : Value) (b : Bool), (part t xs off).run P w = .ok a w ∧ (part t ys off).run P w = .ok c w ∧ (Op.equalIn d t a c).run P w = .ok b w ∧ (b = true ↔ Q)

theorem eqFields_iff (d : Nat) (xs ys : Array Value) (Q : Field → Prop) : ∀ fs : List Field, (∀ f ∈ fs, f.name ≠ "_" ∧ EqPart P d xs ys f.type f.offset w (Q f)) →
    ∃ b : Bool, (Op.eqFields d xs ys fs).run P w = .ok b w ∧ (b = true ↔ ∀ f ∈ fs, Q f)
  | [], _ => ⟨true, by simp [Op.eqFields], by simp⟩
  | f :: fs, h => by
    obtain ⟨hn, a, c, b, h1, h2, h3, h4⟩ := h f (by simp)
    obtain ⟨b', g1, g2⟩ := eqFields_iff d xs ys Q fs (fun f hf => h f (by simp [hf]))
    simp only [Op.eqFields, if_pos hn, Sem.run_bind, h1, h2, h3, Result.andThen_ok]
    cases b
    · refine ⟨false, by simp, ?_⟩
      constructor
      · intro e; cases e
      · intro e
        have := h4.2 (e f (by simp))
        cases this
    · refine ⟨b', by simpa using g1, ?_⟩
      rw [g2]
      constructor
      · intro e x hx
        rcases List.mem_cons.1 hx with rfl | hx
        · exact h4.1 rfl
        · exact e x hx
      · exact fun e x hx => e x (by simp [hx])

theorem eqItems_iff (d : Nat) (e : TypeId) (n : Nat) (xs ys : Array Value) (Q : Nat → Prop) : ∀ is : List Nat, (∀ i ∈ is, EqPart P d xs ys e (i * n) w (Q i)) →
    ∃ b : Bool, (Op.eqItems d e n xs ys is).run P w = .ok b w ∧ (b = true ↔ ∀ i ∈ is, Q i)
  | [], _ => ⟨true, by simp [Op.eqItems], by simp⟩
  | i :: is, h => by
    obtain ⟨a, c, b, h1, h2, h3, h4⟩ := h i (by simp)
    obtain ⟨b', g1, g2⟩ := eqItems_iff d e n xs ys Q is (fun f hf => h f (by simp [hf]))
    simp only [Op.eqItems, Sem.run_bind, h1, h2, h3, Result.andThen_ok]
    cases b
    · refine ⟨false, by simp, ?_⟩
      constructor
      · intro e; cases e
      · intro e
        have := h4.2 (e i (by simp))
        cases this
    · refine ⟨b', by simpa using g1, ?_⟩
      rw [g2]
      constructor
      · intro e x hx
        rcases List.mem_cons.1 hx with rfl | hx
        · exact h4.1 rfl
        · exact e x hx
      · exact fun e x hx => e x (by simp [hx])

theorem part_one {t : TypeId} {xs : Array Value} {off : Nat} {v : Value} (ha : (isAgg t).run P w = .ok false w) (h : xs[off]? = some v) : (part t xs off).run P w = .ok v w := by
  simp [part, ha, h]
theorem part_agg {t : TypeId} {xs : Array Value} {off n : Nat} (ha : (isAgg t).run P w = .ok true w) (hs : (sizeOf t).run P w = .ok n w) : (part t xs off).run P w = .ok (.agg (xs.extract off (off + n))) w := by
  simp [part, ha, hs]

theorem eq_int {d : Nat} {xs ys : Array Value} {t : TypeId} {off : Nat} {k : IntKind} {a c : Int} (ha : (isAgg t).run P w = .ok false w) (hu : P.underlying t = some (.int k)) (h1 : xs[off]? = some (.int k a)) (h2 : ys[off]? = some (.int k c)) :
    EqPart P (d + 1) xs ys t off w (xs[off]? = ys[off]?) :=
  ⟨_, _, _, part_one w ha h1, part_one w ha h2, run_equalIn_int w d t k k a c hu, by rw [h1, h2]; simp⟩
theorem eq_bool {d : Nat} {xs ys : Array Value} {t : TypeId} {off : Nat} {a c : Bool} (ha : (isAgg t).run P w = .ok false w) (hu : P.underlying t = some .bool) (h1 : xs[off]? = some (.bool a)) (h2 : ys[off]? = some (.bool c)) :
    EqPart P (d + 1) xs ys t off w (xs[off]? = ys[off]?) :=
  ⟨_, _, _, part_one w ha h1, part_one w ha h2, run_equalIn_bool' w d t a c hu, by rw [h1, h2]; simp⟩
end

theorem extract_row (f : Nat → Value) {n off m : Nat} (h : off + m ≤ n) : (rowOf f n).extract off (off + m) = rowOf (fun j => f (off + j)) m := by
  apply Array.ext
  · simp [rowOf]; omega
  · intro i h1 h2
    simp [rowOf]

end Go.Proofs.Ytdhoimjkgicneab
