/- Bytes in memory: a slice that holds them, a slice that owns them; how they are made a string. -/
import Derived.Test.YtdhoimjkgicneacRet
import Derived.Test.YtdhoimjkgicneacHolP
import Derived.OwnWalk
import Derived.Maps.AppendAt
import Derived.Laws.AppendOwnNone
import Derived.Laws.BytesArg
import Derived.Laws.OwnMore
namespace Go.Proofs.Ytdhoimjkgicneac
open Go Go.RowKit

/-- Bytes as values. -/
def bytesV (xs : List Nat) : List Value := xs.map fun (x : Nat) => .int .u8 (x : Int)
theorem bytesV_len (xs : List Nat) : (bytesV xs).length = xs.length := by simp [bytesV]
theorem bytesV_get (xs : List Nat) (i : Nat) : (bytesV xs)[i]? = xs[i]?.map fun (x : Nat) => .int .u8 (x : Int) := by simp [bytesV]
theorem bytesV_append (xs ys : List Nat) : bytesV (xs ++ ys) = bytesV xs ++ bytesV ys := by simp [bytesV]
theorem bytesV_one (xs : List Nat) : ∀ u ∈ bytesV xs, u.oneCell' = true := by
  intro u hu
  simp only [bytesV, List.mem_map] at hu
  obtain ⟨x, -, rfl⟩ := hu
  rfl

/-- All are bytes, and not too many. -/
structure Few (xs : List Nat) : Prop where
  le : ∀ x ∈ xs, x ≤ 255
  len : xs.length ≤ 2000000

theorem Few.nil : Few [] := ⟨by simp, by simp⟩
theorem Few.snoc {xs : List Nat} {x : Nat} (h : Few xs) (hx : x ≤ 255) (hl : xs.length < 2000000) : Few (xs ++ [x]) :=
  ⟨fun y hy => by simp at hy; rcases hy with hy | rfl; exact h.le y hy; exact hx, by simp; omega⟩

/-- A slice that holds bytes. -/
def BytesAt (v : Value) (xs : List Nat) (w : World) : Prop :=
  (∃ b off cap : Nat, v = .slice (some ⟨b, off, none⟩) xs.length cap ∧ b < w.heap.size ∧ xs.length ≤ cap ∧ ∀ (i x : Nat), xs[i]? = some x → w.cell? ⟨b, off + i, none⟩ = some (.int .u8 (x : Int))) ∨ (xs = [] ∧ v = .slice none 0 0)

theorem BytesAt.len {v : Value} {xs : List Nat} {w : World} (h : BytesAt v xs w) : ∃ (a : Option Addr) (cap : Nat), v = .slice a xs.length cap := by
  rcases h with ⟨b, off, cap, rfl, -, -, -⟩ | ⟨rfl, rfl⟩
  · exact ⟨_, _, rfl⟩
  · exact ⟨_, _, rfl⟩

theorem BytesAt.below {v : Value} {xs : List Nat} {w w' : World} {B : Nat} (h : BytesAt v xs w) (hb : Below B w w') (hB : w.heap.size ≤ B) : BytesAt v xs w' := by
  rcases h with ⟨b, off, cap, rfl, hz, hc, he⟩ | ⟨rfl, rfl⟩
  · exact Or.inl ⟨b, off, cap, rfl, Nat.lt_of_lt_of_le hz hb.size, hc, fun i x hx => (hb.cell (p := ⟨b, off + i, none⟩) (Nat.lt_of_lt_of_le hz hB)).trans (he i x hx)⟩
  · exact Or.inr ⟨rfl, rfl⟩

/-- A slice that holds bytes, in blocks below B alone. -/
def BytesIn (B : Nat) (v : Value) (xs : List Nat) (w : World) : Prop :=
  (∃ b off cap : Nat, v = .slice (some ⟨b, off, none⟩) xs.length cap ∧ b < B ∧ b < w.heap.size ∧ xs.length ≤ cap ∧ ∀ (i x : Nat), xs[i]? = some x → w.cell? ⟨b, off + i, none⟩ = some (.int .u8 (x : Int))) ∨ (xs = [] ∧ v = .slice none 0 0)

/-- A slice that owns bytes. -/
abbrev Own (base : Nat) (v : Value) (xs : List Nat) (w : World) : Prop := w.ownsRow base 5 1 v xs.length (bytesV xs)

theorem Own.at {base : Nat} {v : Value} {xs : List Nat} {w : World} (h : Own base v xs w) : BytesAt v xs w := by
  rcases h.2 with ⟨rfl, h0⟩ | ⟨g, cap, cur, rfl, hb, hg, hn, hm, hs, ht⟩
  · exact Or.inr ⟨List.eq_nil_of_length_eq_zero h0, rfl⟩
  · refine Or.inl ⟨g, 0, cap, rfl, (Array.getElem?_eq_some_iff.1 hg).1, hn, fun i x hx => ?_⟩
    have hi : i < xs.length := (List.getElem?_eq_some_iff.1 hx).1
    rw [Nat.zero_add, World.ownsRow.cellAt (cap := cap) h i (by omega), bytesV_get, hx]
    rfl

theorem own_size {base : Nat} {v : Value} {xs : List Nat} {w : World} (h : Own base v xs w) : ∃ (a : Option Addr) (cap : Nat), v = .slice a xs.length cap := h.at.len

theorem Own.kept {base : Nat} {v : Value} {xs : List Nat} {w w' : World} (h : Own base v xs w) (hk : ∀ g, v.ownBlock = some g → w'.heap[g]? = w.heap[g]?) : Own base v xs w' := by
  refine ⟨h.1, ?_⟩
  rcases h.2 with hn | ⟨g, cap, cur, rfl, hb, hg, rest⟩
  · exact .inl hn
  · exact .inr ⟨g, cap, cur, rfl, hb, (hk g rfl).trans hg, rest⟩

theorem Own.mono {base base' : Nat} {v : Value} {xs : List Nat} {w : World} (h : Own base v xs w) (hb : base' ≤ base) : Own base' v xs w := by
  refine ⟨h.1, ?_⟩
  rcases h.2 with hn | ⟨g, cap, cur, rfl, hg, rest⟩
  · exact .inl hn
  · exact .inr ⟨g, cap, cur, rfl, Nat.le_trans hb hg, rest⟩

/-- Bytes as a string. -/
def strOf (xs : List Nat) : ByteArray := strOfNums (xs.map fun (x : Nat) => (x : Int))

theorem str_run {v : Value} {xs : List Nat} {w : World} (h : BytesAt v xs w) : (convert 22 9 v).run Try.prog w = .ok (.string (strOf xs)) w := by
  rcases h with ⟨b, off, cap, rfl, hz, hc, he⟩ | ⟨rfl, rfl⟩
  · refine run_convert_bytes_arg w 22 5 Try.underlying22 Try.underlying5 b off xs.length cap (xs.map fun (x : Nat) => (x : Int)) (by simp) (fun i hi => ?_) 9 Try.underlying9
    rw [he i xs[i] (List.getElem?_eq_getElem hi)]
    simp [List.getD, List.getElem?_eq_getElem hi]
  · have e : strOf [] = ByteArray.empty := rfl
    rw [e]
    exact run_convert_bytes_nil w 22 5 Try.underlying22 Try.underlying5 0 0 9 Try.underlying9

theorem str_inj {xs ys : List Nat} (hx : Few xs) (hy : Few ys) : strOf xs = strOf ys ↔ xs = ys := by
  constructor
  · intro h
    have e := congrArg (fun b : ByteArray => b.data.toList) h
    simp only [strOf, strOfNums_data, List.map_map] at e
    have key : ∀ (xs ys : List Nat), (∀ x ∈ xs, x ≤ 255) → (∀ x ∈ ys, x ≤ 255) → xs.map ((fun n : Int => UInt8.ofNat n.toNat) ∘ fun (x : Nat) => (x : Int)) = ys.map ((fun n : Int => UInt8.ofNat n.toNat) ∘ fun (x : Nat) => (x : Int)) → xs = ys := by
      intro xs
      induction xs with
      | nil => intro ys _ _ h; cases ys with
        | nil => rfl
        | cons y ys => simp at h
      | cons x xs ih =>
        intro ys h1 h2 h
        cases ys with
        | nil => simp at h
        | cons y ys =>
          simp only [List.map_cons, List.cons.injEq, Function.comp] at h
          have e1 := congrArg UInt8.toNat h.1
          simp only [Int.toNat_natCast, UInt8.toNat_ofNat'] at e1
          have b1 := h1 x (by simp)
          have b2 := h2 y (by simp)
          rw [Nat.mod_eq_of_lt (by omega), Nat.mod_eq_of_lt (by omega)] at e1
          rw [e1, ih ys (fun z hz => h1 z (by simp [hz])) (fun z hz => h2 z (by simp [hz])) h.2]
    exact key xs ys hx.le hy.le e
  · intro h; rw [h]

theorem info_byte : (Try.prog.info? 5).map (fun i => (i.zero, i.size, i.bytes)) = some (some (.int .u8 0), 1, 1) := by kernel_rfl

/-- A store as a value. -/
def romV (r : Ro) (da db : Value) : Value := .agg #[.int .u8 (r.a.mark : Int), .int .u8 (r.a.turn : Int), da, .int .u8 (r.b.mark : Int), .int .u8 (r.b.turn : Int), db]

/-- Its numbers are bytes. -/
structure RoOk (r : Ro) : Prop where
  am : r.a.mark ≤ 255
  at' : r.a.turn ≤ 255
  ad : Few r.a.data
  bm : r.b.mark ≤ 255
  bt : r.b.turn ≤ 255
  bd : Few r.b.data

/-- A value that is a store. -/
def RomAt (v : Value) (r : Ro) (w : World) : Prop := RoOk r ∧ ∃ da db, v = romV r da db ∧ BytesAt da r.a.data w ∧ BytesAt db r.b.data w

theorem RomAt.below {v : Value} {r : Ro} {w w' : World} {B : Nat} (h : RomAt v r w) (hb : Below B w w') (hB : w.heap.size ≤ B) : RomAt v r w' := by
  obtain ⟨ok, da, db, e, h1, h2⟩ := h
  exact ⟨ok, da, db, e, h1.below hb hB, h2.below hb hB⟩

end Go.Proofs.Ytdhoimjkgicneac
