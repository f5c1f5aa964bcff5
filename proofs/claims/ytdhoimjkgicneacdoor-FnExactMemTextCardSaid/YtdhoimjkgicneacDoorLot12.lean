/- Texts of this proof laid together: MxA, MyA. -/
import Derived.Test.YtdhoimjkgicneacDoorLot7
import Derived.Test.YtdhoimjkgicneacDoorLot11
import Derived.OwnWalk
import Derived.Maps.AppendAt
import Derived.Laws.AppendOwnNone
import Derived.Laws.OwnMore
import Derived.WalkKit
/- Words of a memory's text as they are written one by one. Of no one program. -/
namespace Go.Proofs.YtdhoimjkgicneacDoor
open Go

/-- The words of the first n places. -/
def seg (n : Nat) (p : Nat → Bool) (f : Nat → Wd) : List Wd := ((List.range n).filter p).map f
theorem seg_zero (p : Nat → Bool) (f : Nat → Wd) : seg 0 p f = [] := rfl
theorem seg_succ (n : Nat) (p : Nat → Bool) (f : Nat → Wd) : seg (n + 1) p f = seg n p f ++ (if p n then [f n] else []) := by
  unfold seg
  rw [List.range_succ, List.filter_append, List.map_append]
  congr 1
  by_cases h : p n = true <;> simp [h]
theorem seg_yes {n : Nat} {p : Nat → Bool} {f : Nat → Wd} (h : p n = true) : seg (n + 1) p f = seg n p f ++ [f n] := by rw [seg_succ, if_pos h]
theorem seg_no {n : Nat} {p : Nat → Bool} {f : Nat → Wd} (h : p n = false) : seg (n + 1) p f = seg n p f := by rw [seg_succ, h]; simp
theorem seg_leN (n m : Nat) (p : Nat → Bool) (f : Nat → Wd) (h : n ≤ m) : ∃ L, seg m p f = seg n p f ++ L := by
  induction m with
  | zero => exact ⟨[], by rw [show n = 0 by omega]; simp⟩
  | succ m ih =>
    by_cases e : n = m + 1
    · subst e; exact ⟨[], by simp⟩
    · obtain ⟨L, hL⟩ := ih (by omega)
      exact ⟨L ++ (if p m then [f m] else []), by rw [seg_succ, hL, List.append_assoc]⟩

def bitP (v : MemV) (k n : Nat) : List Wd := seg n (fun i => (wdN v k).testBit i) fun i => ⟨k, i, 0, false, false, 0, []⟩
def timerP (v : MemV) (n : Nat) : List Wd := seg n (fun i => v.tD i || v.tC i != 0) fun i => ⟨7, i, v.tC i, v.tD i, false, 0, []⟩
def counterP (v : MemV) (n : Nat) : List Wd := seg n (fun i => v.cD i || (v.cL i || v.cC i != 0)) fun i => ⟨8, i, v.cC i, v.cD i, v.cL i, 0, []⟩
def intP (v : MemV) (n : Nat) : List Wd := seg n (fun i => v.d i != 0) fun i => ⟨9, i, 0, false, false, v.d i, []⟩
def realP (tx : Nat → List UInt8) (n : Nat) : List Wd := seg n (fun i => tx i != [48]) fun i => ⟨10, i, 0, false, false, 0, tx i⟩
theorem bitP_all (v : MemV) (k : Nat) : bitP v k (szN k) = bitW v k := rfl
theorem timerP_all (v : MemV) : timerP v 16 = timerW v := rfl
theorem counterP_all (v : MemV) : counterP v 16 = counterW v := rfl
theorem intP_all (v : MemV) : intP v 32 = intW v := rfl
theorem realP_all (tx : Nat → List UInt8) : realP tx 16 = realW tx := rfl

/-- The bits of the first kinds. -/
def kindsP (v : MemV) : Nat → List Wd
  | 0 => []
  | k + 1 => kindsP v k ++ bitW v (k + 1)
theorem kindsP_all (v : MemV) : kindsP v 5 = bitsW v := by simp [kindsP, bitsW]

theorem size_kind {k : Nat} (h1 : 1 ≤ k) (h2 : k ≤ 5) : sizeZ (k : Int) = (szN k : Nat) ∧ 16 ≤ szN k ∧ szN k ≤ 64 := by
  have : k = 1 ∨ k = 2 ∨ k = 3 ∨ k = 4 ∨ k = 5 := by omega
  rcases this with rfl | rfl | rfl | rfl | rfl <;> exact ⟨by decide, by decide, by decide⟩

theorem mbit_kind (v : MemV) {k n : Nat} (h1 : 1 ≤ k) (h2 : k ≤ 5) (hn : n < szN k) : mbit v (k : Int) (n : Int) = (wdN v k).testBit n := by
  have e : ∀ x : Nat, (x / 2 ^ n % 2 == 1) = x.testBit n := fun x => by rw [Nat.testBit_eq_decide_div_mod_eq]; rfl
  have : k = 1 ∨ k = 2 ∨ k = 3 ∨ k = 4 ∨ k = 5 := by omega
  have ha : (atZ (k : Int) (n : Int)).toNat = n := by
    have hs := size_kind h1 h2
    unfold atZ szR
    rw [if_neg (by omega), if_neg (by omega), hs.1, Int.emod_eq_of_lt (by omega) (by omega)]
    simp
  unfold mbit
  rw [ha, e, e, e, e, e]
  rcases this with rfl | rfl | rfl | rfl | rfl <;> simp [wdN]

end Go.Proofs.YtdhoimjkgicneacDoor

/- Strings in memory: a slice that holds them, a slice that owns them; one put behind. -/
namespace Go.Proofs.YtdhoimjkgicneacDoor
open Go Go.RowKit

/-- Strings as values. -/
def strsV (ss : List (List UInt8)) : List Value := ss.map fun s => .string ⟨s.toArray⟩
theorem strsV_len (ss : List (List UInt8)) : (strsV ss).length = ss.length := by simp [strsV]
theorem strsV_append (a b : List (List UInt8)) : strsV (a ++ b) = strsV a ++ strsV b := by simp [strsV]
theorem strsV_get (ss : List (List UInt8)) (i : Nat) : (strsV ss)[i]? = ss[i]?.map fun s => .string ⟨s.toArray⟩ := by simp [strsV]
theorem strsV_one (ss : List (List UInt8)) : ∀ u ∈ strsV ss, u.oneCell' = true := by
  intro u hu
  simp only [strsV, List.mem_map] at hu
  obtain ⟨x, -, rfl⟩ := hu
  rfl

/-- A slice that owns strings. -/
abbrev OwnS (base : Nat) (v : Value) (ss : List (List UInt8)) (w : World) : Prop := w.ownsRow base 9 1 v ss.length (strsV ss)

theorem ownS_nil (base : Nat) (w : World) : OwnS base (.slice none 0 0) [] w := World.ownsRow_nil w base 9 1
theorem OwnS.lt {base : Nat} {v : Value} {ss : List (List UInt8)} {w : World} (h : OwnS base v ss w) {k : Nat} (hk : v.ownBlock = some k) : base ≤ k ∧ k < w.heap.size := World.ownsRow.lt h k hk
theorem OwnS.kept {base : Nat} {v : Value} {ss : List (List UInt8)} {w w' : World} (h : OwnS base v ss w) (hk : ∀ g, v.ownBlock = some g → w'.heap[g]? = w.heap[g]?) : OwnS base v ss w' := by
  refine ⟨h.1, ?_⟩
  rcases h.2 with hn | ⟨g, cap, cur, rfl, hb, hg, rest⟩
  · exact .inl hn
  · exact .inr ⟨g, cap, cur, rfl, hb, (hk g rfl).trans hg, rest⟩
theorem OwnS.below {base B : Nat} {v : Value} {ss : List (List UInt8)} {w w' : World} (h : OwnS base v ss w) (hb : Below B w w') (hB : w.heap.size ≤ B) : OwnS base v ss w' := h.kept fun g hg => hb.block g (by have := h.lt hg; omega)
theorem OwnS.mono {base base' : Nat} {v : Value} {ss : List (List UInt8)} {w : World} (h : OwnS base v ss w) (hb : base' ≤ base) : OwnS base' v ss w := by
  refine ⟨h.1, ?_⟩
  rcases h.2 with hn | ⟨g, cap, cur, rfl, hg, rest⟩
  · exact .inl hn
  · exact .inr ⟨g, cap, cur, rfl, Nat.le_trans hb hg, rest⟩
theorem ownS_cases {base : Nat} {v : Value} {ss : List (List UInt8)} {w : World} (h : OwnS base v ss w) : (v = .slice none 0 0 ∧ ss = []) ∨ ∃ g cap, v = .slice (some ⟨g, 0, none⟩) ss.length cap ∧ base ≤ g ∧ g < w.heap.size ∧ ss.length ≤ cap ∧ ∀ (i : Nat) (x : List UInt8), ss[i]? = some x → w.cell? ⟨g, i, none⟩ = some (.string ⟨x.toArray⟩) := by
  rcases h.2 with ⟨rfl, h0⟩ | ⟨g, cap, cur, rfl, hb, hg, hn, -⟩
  · exact Or.inl ⟨rfl, List.eq_nil_of_length_eq_zero h0⟩
  · refine Or.inr ⟨g, cap, rfl, hb, (Array.getElem?_eq_some_iff.1 hg).1, hn, fun i x hx => ?_⟩
    have hi : i < ss.length := (List.getElem?_eq_some_iff.1 hx).1
    rw [World.ownsRow.cellAt (cap := cap) h i (by omega), strsV_get, hx]
    rfl
theorem ownS_size {base : Nat} {v : Value} {ss : List (List UInt8)} {w : World} (h : OwnS base v ss w) : ∃ (a : Option Addr) (cap : Nat), v = .slice a ss.length cap := by
  rcases ownS_cases h with ⟨rfl, rfl⟩ | ⟨g, cap, rfl, -⟩
  · exact ⟨_, _, rfl⟩
  · exact ⟨_, _, rfl⟩

theorem info_str : (Tryd.prog.info? 9).map (fun i => (i.zero, i.size, i.bytes)) = some (some (.string ⟨#[]⟩), 1, 16) := by kernel_rfl

theorem addr_addS (b off j : Nat) : (⟨b, off, none⟩ : Addr).add j = ⟨b, off + j, none⟩ := by unfold Addr.add; split <;> simp_all

theorem run_appS (base : Nat) {v s : Value} {xs ys : List (List UInt8)} {w : World} (ty : TypeId) (h : OwnS base v xs w) (hs : (∃ b cap, s = .slice (some ⟨b, 0, none⟩) ys.length cap ∧ ∀ (i : Nat) (x : List UInt8), ys[i]? = some x → w.cell? ⟨b, i, none⟩ = some (.string ⟨x.toArray⟩)) ∨ (ys = [] ∧ s = .slice none 0 0)) (hl : xs.length + ys.length ≤ 100000) (hb : base ≤ w.heap.size) :
    ∃ v' w', (Builtin.append_ #[71, 71] ty #[v, s]).run Tryd.prog w = .ok v' w' ∧ OwnS base v' (xs ++ ys) w' ∧ w.grownBy w' v.ownBlock := by
  obtain ⟨i, hi, hz, h1, h2⟩ := info_parts info_str
  rcases hs with ⟨b, cap, rfl, he⟩ | ⟨rfl, rfl⟩
  · obtain ⟨v', w', hr, ho, hg, -, -⟩ := run_append_own_at (P := Tryd.prog) w base 71 ty 9 i (.string ⟨#[]⟩) 1 16 Tryd.underlying71 hi hz h1 h2 rfl (by decide) v xs.length (strsV xs) h ⟨b, 0, none⟩ ys.length cap (strsV ys) (by simp [strsV_len]) (by
        intro j u hj
        rw [strsV_get] at hj
        cases hy : ys[j]? with
        | none => rw [hy] at hj; simp at hj
        | some x =>
          rw [hy] at hj
          simp at hj
          rw [addr_addS, Nat.zero_add, he j x hy, hj]) (strsV_one ys) (by unfold maxLen; omega) (by omega) hb
    refine ⟨v', w', hr, ?_, hg⟩
    unfold OwnS
    rw [strsV_append, List.length_append]
    exact ho
  · refine ⟨v, w, run_append_owned_none (P := Tryd.prog) (w := w) base 71 ty 9 i 1 Tryd.underlying71 hi v xs.length (strsV xs) h, ?_, World.grownBy.refl w _⟩
    simpa using h

theorem list_appS (base : Nat) {v s : Value} {xs ys : List (List UInt8)} {w : World} {ops : Array Oper} {rest : List Oper} {o : Oper} {a : Act} {Q : Exit → Act → World → Prop} (hgd : o.guard = none) (p x : Operand)
    (ho : o.op = .call { callee := .builtin .append, args := #[p, x], argTypes := #[71, 71] }) (hp : a.eval p = v) (hx : a.eval x = s)
    (h : OwnS base v xs w) (hs : (∃ b cap, s = .slice (some ⟨b, 0, none⟩) ys.length cap ∧ ∀ (i : Nat) (x : List UInt8), ys[i]? = some x → w.cell? ⟨b, i, none⟩ = some (.string ⟨x.toArray⟩)) ∨ (ys = [] ∧ s = .slice none 0 0)) (hl : xs.length + ys.length ≤ 100000) (hb : base ≤ w.heap.size)
    (hK : ∀ v' w', OwnS base v' (xs ++ ys) w' → w.grownBy w' v.ownBlock → wpList Tryd.prog ops Q rest (a.put o.dst v') w') :
    wpList Tryd.prog ops Q (o :: rest) a w := by
  refine wpList_plain hgd fun K hK' => ?_
  obtain ⟨v', w', hr, h2, h3⟩ := run_appS base o.type h hs hl hb
  unfold Oper.wp execOp
  simp only [ho, resolve, invoke, builtin, Sem.run_bind, Sem.run_pure, Result.andThen_ok, List.map_toArray, List.map_cons, List.map_nil, hp, hx, hr]
  exact hK' _ _ (hK v' w' h2 h3)

theorem one_str (x : List UInt8) (w : World) (t : TypeId) : (∃ b cap, (Value.slice (some ⟨w.heap.size, 0, none⟩) 1 1) = .slice (some ⟨b, 0, none⟩) [x].length cap ∧ ∀ (i : Nat) (y : List UInt8), [x][i]? = some y → (w.alloc (.cells #[.string ⟨x.toArray⟩] t)).cell? ⟨b, i, none⟩ = some (.string ⟨y.toArray⟩)) ∨ ([x] = [] ∧ (Value.slice (some ⟨w.heap.size, 0, none⟩) 1 1) = .slice none 0 0) := by
  refine Or.inl ⟨w.heap.size, 1, rfl, fun i y hy => ?_⟩
  match i, hy with
  | 0, hy => simp at hy; subst hy; simp

theorem grownS_below {w w' : World} {row : Option Nat} {B : Nat} (h : w.grownBy w' row) (hB : B ≤ w.heap.size) (hr : ∀ g, row = some g → B ≤ g) : Below B w w' :=
  ⟨h.os, h.tape, h.output, h.size, fun i hi => h.block i (by omega) (fun e => by have := hr i e.symm; omega)⟩

end Go.Proofs.YtdhoimjkgicneacDoor
