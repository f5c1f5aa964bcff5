/- Texts of this proof laid together: MemA, Dev0, Dev2. -/
import Derived.WalkKit
import Derived.Below
import Derived.Laws.Cells
import Derived.Shelf.Strconv.Itoa3
/- A memory of the controller as a row of 136 cells, field by field. Of no one program. -/
namespace Go.Proofs.YtdhoimjkgicneacGreatDoor
open Go Go.RowKit

/-- A memory, field by field. -/
structure MemV where
  x : Nat
  y : Nat
  m : Nat
  s : Nat
  e : Nat
  tD : Nat → Bool
  tC : Nat → Nat
  cD : Nat → Bool
  cL : Nat → Bool
  cC : Nat → Nat
  d : Nat → Int
  r : Nat → Nat
  time : Nat
  ran : Bool
  fault : Bool

/-- Its fields fit their kinds. -/
structure MemV.Ok (v : MemV) : Prop where
  x : v.x < 4294967296
  y : v.y < 4294967296
  m : v.m < 18446744073709551616
  s : v.s < 65536
  e : v.e < 4294967296
  tC : ∀ i, v.tC i < 65536
  cC : ∀ i, v.cC i < 65536
  d1 : ∀ i, -32768 ≤ v.d i
  d2 : ∀ i, v.d i ≤ 32767
  r : ∀ i, v.r i < 2 ^ 64
  time : v.time < 4294967296

/-- Its cells. -/
def MemV.cell (v : MemV) (k : Nat) : Value :=
  if k = 0 then .int .u32 v.x else if k = 1 then .int .u32 v.y else if k = 2 then .int .u64 v.m else if k = 3 then .int .u16 v.s else if k = 4 then .int .u32 v.e
  else if k < 37 then (if (k - 5) % 2 = 0 then .bool (v.tD ((k - 5) / 2)) else .int .u16 (v.tC ((k - 5) / 2)))
  else if k < 85 then (if (k - 37) % 3 = 0 then .bool (v.cD ((k - 37) / 3)) else if (k - 37) % 3 = 1 then .bool (v.cL ((k - 37) / 3)) else .int .u16 (v.cC ((k - 37) / 3)))
  else if k < 117 then .int .i16 (v.d (k - 85))
  else if k < 133 then .float .f64 (v.r (k - 117))
  else if k = 133 then .int .u32 v.time else if k = 134 then .bool v.ran else .bool v.fault

def MemV.row (v : MemV) : Array Value := ((List.range 136).map v.cell).toArray

theorem MemV.row_size (v : MemV) : v.row.size = 136 := by simp [MemV.row]
theorem MemV.row_get (v : MemV) {k : Nat} (h : k < 136) : v.row[k]? = some (v.cell k) := by
  unfold MemV.row
  simp [h]

section
variable (v : MemV) (i : Nat)
theorem MemV.cell_x : v.cell 0 = .int .u32 v.x := rfl
theorem MemV.cell_y : v.cell 1 = .int .u32 v.y := rfl
theorem MemV.cell_m : v.cell 2 = .int .u64 v.m := rfl
theorem MemV.cell_s : v.cell 3 = .int .u16 v.s := rfl
theorem MemV.cell_e : v.cell 4 = .int .u32 v.e := rfl
theorem MemV.cell_time : v.cell 133 = .int .u32 v.time := rfl
theorem MemV.cell_ran : v.cell 134 = .bool v.ran := rfl
theorem MemV.cell_fault : v.cell 135 = .bool v.fault := rfl
theorem MemV.cell_tD (h : i < 16) : v.cell (5 + i * 2) = .bool (v.tD i) := by
  unfold MemV.cell
  rw [if_neg (by omega), if_neg (by omega), if_neg (by omega), if_neg (by omega), if_neg (by omega), if_pos (by omega), if_pos (by omega), show (5 + i * 2 - 5) / 2 = i by omega]
theorem MemV.cell_tC (h : i < 16) : v.cell (5 + i * 2 + 1) = .int .u16 (v.tC i) := by
  unfold MemV.cell
  rw [if_neg (by omega), if_neg (by omega), if_neg (by omega), if_neg (by omega), if_neg (by omega), if_pos (by omega), if_neg (by omega), show (5 + i * 2 + 1 - 5) / 2 = i by omega]
theorem MemV.cell_cD (h : i < 16) : v.cell (37 + i * 3) = .bool (v.cD i) := by
  unfold MemV.cell
  rw [if_neg (by omega), if_neg (by omega), if_neg (by omega), if_neg (by omega), if_neg (by omega), if_neg (by omega), if_pos (by omega), if_pos (by omega), show (37 + i * 3 - 37) / 3 = i by omega]
theorem MemV.cell_cL (h : i < 16) : v.cell (37 + i * 3 + 1) = .bool (v.cL i) := by
  unfold MemV.cell
  rw [if_neg (by omega), if_neg (by omega), if_neg (by omega), if_neg (by omega), if_neg (by omega), if_neg (by omega), if_pos (by omega), if_neg (by omega), if_pos (by omega), show (37 + i * 3 + 1 - 37) / 3 = i by omega]
theorem MemV.cell_cC (h : i < 16) : v.cell (37 + i * 3 + 2) = .int .u16 (v.cC i) := by
  unfold MemV.cell
  rw [if_neg (by omega), if_neg (by omega), if_neg (by omega), if_neg (by omega), if_neg (by omega), if_neg (by omega), if_pos (by omega), if_neg (by omega), if_neg (by omega), show (37 + i * 3 + 2 - 37) / 3 = i by omega]
theorem MemV.cell_d (h : i < 32) : v.cell (85 + i) = .int .i16 (v.d i) := by
  unfold MemV.cell
  rw [if_neg (by omega), if_neg (by omega), if_neg (by omega), if_neg (by omega), if_neg (by omega), if_neg (by omega), if_neg (by omega), if_pos (by omega), show 85 + i - 85 = i by omega]
theorem MemV.cell_r (h : i < 16) : v.cell (117 + i) = .float .f64 (v.r i) := by
  unfold MemV.cell
  rw [if_neg (by omega), if_neg (by omega), if_neg (by omega), if_neg (by omega), if_neg (by omega), if_neg (by omega), if_neg (by omega), if_neg (by omega), if_pos (by omega), show 117 + i - 117 = i by omega]
end

/-- Block b holds the memory v. -/
structure MemAt (b : Nat) (v : MemV) (w : World) : Prop where
  z : b < w.heap.size
  c : ∀ k, k < 136 → w.cell? ⟨b, k, none⟩ = some (v.cell k)
  f : ∀ k, k < 136 → w.frozen? ⟨b, k, none⟩ = false

theorem MemAt.alloc (v : MemV) (w : World) (t : TypeId) : MemAt w.heap.size v (w.alloc (.cells v.row t)) := by
  refine ⟨by simp, fun k hk => ?_, fun k hk => by simp⟩
  simp [hk, MemV.row]

theorem MemAt.of_block {b : Nat} {v : MemV} {w w' : World} (h : MemAt b v w) (hb : w'.heap[b]? = w.heap[b]?) (hz : b < w'.heap.size) : MemAt b v w' :=
  ⟨hz, fun k hk => (World.cell?_of_block (w := w) (a := ⟨b, k, none⟩) hb).trans (h.c k hk), fun k hk => (World.frozen?_of_block (w := w) (a := ⟨b, k, none⟩) hb).trans (h.f k hk)⟩

theorem MemAt.below {b B : Nat} {v : MemV} {w w' : World} (h : MemAt b v w) (hb : Below B w w') (hB : b < B) : MemAt b v w' :=
  h.of_block (hb.block b hB) (Nat.lt_of_lt_of_le h.z hb.size)

/-- The whole row read. -/
theorem MemAt.load {P : Program} {b : Nat} {v : MemV} {w : World} (h : MemAt b v w) : (loadCells ⟨b, 0, none⟩ 136).run P w = .ok v.row w :=
  run_loadCells (P := P) (w := w) ⟨b, 0, none⟩ 136 v.cell (fun j hj => by
    have := h.c j hj
    by_cases h0 : j = 0
    · subst h0; simpa [Addr.add] using this
    · simpa [Addr.add, h0] using this)

end Go.Proofs.YtdhoimjkgicneacGreatDoor

/- Plain arithmetic and texts of operands: what a device's text is, apart from any program. -/
namespace Go.Proofs.YtdhoimjkgicneacGreatDoor
open Go

/-- How many devices there are of a kind. -/
def sizeZ (k : Int) : Int :=
  if k = 1 then 32 else if k = 2 then 32 else if k = 3 then 64 else if k = 4 then 16 else if k = 5 then 32 else if k = 6 then 5
  else if k = 7 then 16 else if k = 8 then 16 else if k = 9 then 32 else if k = 10 then 16 else 0

/-- The letter of a kind. -/
def letterL (k : Int) : List UInt8 :=
  if k = 1 then [88] else if k = 2 then [89] else if k = 3 then [77] else if k = 4 then [83] else if k = 5 then [69] else if k = 6 then [71]
  else if k = 7 then [84] else if k = 8 then [67] else if k = 9 then [68] else if k = 10 then [82] else []

/-- The word of a number. -/
def wordL (n : Int) : List UInt8 :=
  if n = 0 then [110, 97, 110] else if n = 1 then [105, 110, 102] else if n = 2 then [45, 105, 110, 102] else if n = 3 then [45, 48, 46, 48] else []

/-- Whether an operand is one. -/
def okB (k n p : Int) : Bool :=
  if k = 11 then decide (-32768 ≤ n ∧ n ≤ 32767 ∧ p = 0)
  else if k = 12 then decide (-999999999 ≤ n ∧ n ≤ 999999999 ∧ 1 ≤ p ∧ p ≤ 6 ∧ (p = 1 ∨ n.tmod 10 ≠ 0))
  else if k = 13 then decide (0 ≤ n ∧ n ≤ 3 ∧ p = 0)
  else decide (0 ≤ n ∧ n < sizeZ k ∧ p = 0)

/-- A kind is one of the thirteen, or none. -/
theorem kcases (k : Int) : k = 1 ∨ k = 2 ∨ k = 3 ∨ k = 4 ∨ k = 5 ∨ k = 6 ∨ k = 7 ∨ k = 8 ∨ k = 9 ∨ k = 10 ∨ k = 11 ∨ k = 12 ∨ k = 13 ∨ k < 1 ∨ 13 < k := by omega

theorem sizeZ_out {k : Int} (h : k < 1 ∨ 10 < k) : sizeZ k = 0 := by
  unfold sizeZ
  repeat rw [if_neg (by omega)]

theorem letterL_out {k : Int} (h : k < 1 ∨ 10 < k) : letterL k = [] := by
  unfold letterL
  repeat rw [if_neg (by omega)]

theorem sz1 : sizeZ 1 = 32 := by decide
theorem sz2 : sizeZ 2 = 32 := by decide
theorem sz3 : sizeZ 3 = 64 := by decide
theorem sz4 : sizeZ 4 = 16 := by decide
theorem sz5 : sizeZ 5 = 32 := by decide
theorem sz6 : sizeZ 6 = 5 := by decide
theorem sz7 : sizeZ 7 = 16 := by decide
theorem sz8 : sizeZ 8 = 16 := by decide
theorem sz9 : sizeZ 9 = 32 := by decide
theorem sz10 : sizeZ 10 = 16 := by decide
theorem sz11 : sizeZ 11 = 0 := by decide
theorem sz12 : sizeZ 12 = 0 := by decide
theorem sz13 : sizeZ 13 = 0 := by decide
theorem lt1 : letterL 1 = [88] := by decide
theorem lt2 : letterL 2 = [89] := by decide
theorem lt3 : letterL 3 = [77] := by decide
theorem lt4 : letterL 4 = [83] := by decide
theorem lt5 : letterL 5 = [69] := by decide
theorem lt6 : letterL 6 = [71] := by decide
theorem lt7 : letterL 7 = [84] := by decide
theorem lt8 : letterL 8 = [67] := by decide
theorem lt9 : letterL 9 = [68] := by decide
theorem lt10 : letterL 10 = [82] := by decide
theorem lt11 : letterL 11 = [] := by decide
theorem lt12 : letterL 12 = [] := by decide
theorem lt13 : letterL 13 = [] := by decide

theorem sizeZ_bd (k : Int) : 0 ≤ sizeZ k ∧ sizeZ k ≤ 64 := by
  unfold sizeZ
  repeat' split
  all_goals omega

theorem dd_lt {n : Nat} (h : n < 10) : Lib.decDigits n = [48 + UInt8.ofNat n] := by
  rw [Lib.decDigits, dif_pos h]
  congr 1
  apply UInt8.toNat_inj.1
  simp [UInt8.toNat_ofNat', UInt8.toNat_add]
theorem dd_ge {n : Nat} (h : 9 < n) : Lib.decDigits n = Lib.decDigits (n / 10) ++ [48 + UInt8.ofNat (n % 10)] := by
  rw [Lib.decDigits, dif_neg (by omega)]
  congr 2
  apply UInt8.toNat_inj.1
  simp [UInt8.toNat_ofNat', UInt8.toNat_add]
theorem dd_len (k : Nat) : ∀ n : Nat, n < 10 ^ (k + 1) → (Lib.decDigits n).length ≤ k + 1 := by
  induction k with
  | zero => intro n h; rw [dd_lt (by omega)]; simp
  | succ k ih =>
    intro n h
    by_cases h9 : 9 < n
    · rw [dd_ge h9]
      have := ih (n / 10) (by rw [Nat.pow_succ] at h; omega)
      simp; omega
    · rw [dd_lt (by omega)]; simp
theorem dd_len19 {n : Nat} (h : n ≤ 9223372036854775807) : (Lib.decDigits n).length ≤ 19 := dd_len 18 n (by omega)
theorem dd_pos (n : Nat) : 1 ≤ (Lib.decDigits n).length := by
  by_cases h9 : 9 < n
  · rw [dd_ge h9]; simp
  · rw [dd_lt (by omega)]; simp
/-- A text with zeros ahead, more than p signs long. -/
def padL (l : List UInt8) (p : Nat) : List UInt8 := List.replicate (p + 1 - l.length) 48 ++ l
/-- The last p signs behind a point. -/
def pointL (d : List UInt8) (p : Nat) : List UInt8 := d.take (d.length - p) ++ [46] ++ d.drop (d.length - p)
/-- A decimal number above or at 0. -/
def decM (m p : Nat) : List UInt8 := pointL (padL (Lib.decDigits m) p) p
/-- A decimal number. -/
def decT (n : Int) (p : Nat) : List UInt8 := if n < 0 then 45 :: decM n.natAbs p else decM n.toNat p
/-- The text of an operand. -/
def textL (k n p : Int) : List UInt8 :=
  if okB k n p = false then [] else if k = 11 then Lib.itoa n else if k = 12 then decT n p.toNat else if k = 13 then wordL n else letterL k ++ Lib.itoa n

theorem ext_take (l : List UInt8) (a b : Nat) : (⟨l.toArray⟩ : ByteArray).extract a b = ⟨((l.take b).drop a).toArray⟩ := by
  apply ByteArray.ext
  simp [List.extract_toArray, List.drop_take]
theorem letterL_len (k : Int) : (letterL k).length ≤ 1 := by
  unfold letterL
  repeat' split
  all_goals decide
theorem itoa_len {n : Int} (h1 : -9223372036854775807 ≤ n) (h2 : n ≤ 9223372036854775807) : (Lib.itoa n).length ≤ 20 := by
  unfold Lib.itoa
  split
  · have := dd_len19 (n := n.natAbs) (by omega)
    simp; omega
  · have := dd_len19 (n := n.toNat) (by omega)
    omega
theorem str_cat (a b : List UInt8) : (⟨a.toArray⟩ : ByteArray) ++ ⟨b.toArray⟩ = ⟨(a ++ b).toArray⟩ := by
  apply ByteArray.ext
  simp [ByteArray.data_append]
theorem point_eq (L : List UInt8) (p : Nat) : (⟨L.toArray⟩ : ByteArray).extract 0 (L.length - p) ++ ⟨#[46]⟩ ++ (⟨L.toArray⟩ : ByteArray).extract (L.length - p) L.length = ⟨(pointL L p).toArray⟩ := by
  rw [ext_take, ext_take, show (⟨#[46]⟩ : ByteArray) = ⟨([46] : List UInt8).toArray⟩ from rfl, str_cat, str_cat]
  simp [pointL]
theorem pointL_len (L : List UInt8) (p : Nat) : (pointL L p).length = L.length + 1 := by
  simp [pointL]; omega
theorem decM_len {m p : Nat} (hm : m ≤ 999999999) (hp : p ≤ 6) : (decM m p).length ≤ 30 := by
  have := dd_len19 (n := m) (by omega)
  rw [decM, pointL_len, padL]; simp; omega
theorem str_size (a : List UInt8) : (⟨a.toArray⟩ : ByteArray).size = a.length := by simp [ByteArray.size]

end Go.Proofs.YtdhoimjkgicneacGreatDoor

/- How long the text of an operand is; that it is empty just where the operand is not ok. Plain. -/
namespace Go.Proofs.YtdhoimjkgicneacGreatDoor
open Go

theorem ok_int {n p : Int} (h : okB 11 n p = true) : -32768 ≤ n ∧ n ≤ 32767 ∧ p = 0 := by simpa [okB] using h
theorem ok_dec {n p : Int} (h : okB 12 n p = true) : -999999999 ≤ n ∧ n ≤ 999999999 ∧ 1 ≤ p ∧ p ≤ 6 ∧ (p = 1 ∨ n.tmod 10 ≠ 0) := by
  unfold okB at h; rw [if_neg (by decide), if_pos rfl] at h; exact of_decide_eq_true h
theorem ok_word {n p : Int} (h : okB 13 n p = true) : 0 ≤ n ∧ n ≤ 3 ∧ p = 0 := by simpa [okB] using h
theorem ok_dev {k n p : Int} (h : okB k n p = true) (hk : k < 11 ∨ 13 < k) : 0 ≤ n ∧ n < sizeZ k ∧ p = 0 := by
  unfold okB at h; rw [if_neg (by omega), if_neg (by omega), if_neg (by omega)] at h; exact of_decide_eq_true h
theorem ok_kind {k n p : Int} (h : okB k n p = true) (hk : k < 11 ∨ 13 < k) : 1 ≤ k ∧ k ≤ 10 := by
  have h1 := ok_dev h hk
  by_cases h2 : 1 ≤ k ∧ k ≤ 10
  · exact h2
  · have := sizeZ_out (k := k) (by omega)
    omega

theorem wordL_len (n : Int) : (wordL n).length ≤ 4 := by
  unfold wordL
  repeat' split
  all_goals decide

theorem decT_len {n : Int} {p : Nat} (h1 : -999999999 ≤ n) (h2 : n ≤ 999999999) (hp : p ≤ 6) : (decT n p).length ≤ 31 := by
  unfold decT
  split
  · have := decM_len (m := n.natAbs) (p := p) (by omega) hp
    simp; omega
  · have := decM_len (m := n.toNat) (p := p) (by omega) hp
    omega

theorem textL_len (k n p : Int) : (textL k n p).length ≤ 40 := by
  cases hk : okB k n p with
  | false => unfold textL; rw [if_pos hk]; simp
  | true =>
    unfold textL
    rw [if_neg (by rw [hk]; decide)]
    split
    · rename_i h; subst h
      have := ok_int hk
      have := itoa_len (n := n) (by omega) (by omega)
      omega
    · split
      · rename_i h; subst h
        have := ok_dec hk
        have := decT_len (n := n) (p := p.toNat) (by omega) (by omega) (by omega)
        omega
      · split
        · have := wordL_len n; omega
        · have h1 := ok_dev hk (by omega)
          have h2 := sizeZ_bd k
          have h3 := itoa_len (n := n) (by omega) (by omega)
          have h4 := letterL_len k
          simp; omega

theorem textL_ne {k n p : Int} (hk : okB k n p = true) : textL k n p ≠ [] := by
  unfold textL
  rw [if_neg (by rw [hk]; decide)]
  have hpos : ∀ n : Int, Lib.itoa n ≠ [] := by
    intro n; unfold Lib.itoa
    split
    · simp
    · intro h; have := dd_pos n.toNat; rw [h] at this; simp at this
  split
  · exact hpos n
  · split
    · unfold decT decM pointL
      split <;> simp
    · split
      · have := ok_word (n := n) (p := p) (by rename_i h; rw [← h]; exact hk)
        have h4 : n = 0 ∨ n = 1 ∨ n = 2 ∨ n = 3 := by omega
        rcases h4 with rfl | rfl | rfl | rfl <;> decide
      · intro h; exact hpos n (List.append_eq_nil_iff.1 h).2

end Go.Proofs.YtdhoimjkgicneacGreatDoor
