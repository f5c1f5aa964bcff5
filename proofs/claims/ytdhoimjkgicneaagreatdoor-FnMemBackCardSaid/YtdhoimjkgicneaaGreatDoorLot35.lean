/- Texts of this proof laid together: MtE, MxA, MyA. -/
import Derived.Test.YtdhoimjkgicneaaGreatDoorLot12
import Derived.Test.YtdhoimjkgicneaaGreatDoorLot14
import Derived.OwnWalk
import Derived.Maps.AppendAt
import Derived.Laws.AppendOwnNone
import Derived.Laws.OwnMore
import Derived.WalkKit
/- How long the text of a memory is, and the text as the specification builds it: each word with a space behind it, the last space taken off. Of no one program. -/
namespace Go.Proofs.YtdhoimjkgicneaaGreatDoor
open Go

/-- Each word with a space behind it. -/
def spL (L : List Wd) : List UInt8 := (L.map fun w => w.text ++ [32]).flatten

theorem spL_append (a b : List Wd) : spL (a ++ b) = spL a ++ spL b := by simp [spL]
theorem spL_nil : spL [] = [] := rfl
theorem spL_one (w : Wd) : spL [w] = w.text ++ [32] := by simp [spL]

theorem spL_join : ∀ (L : List Wd), L ≠ [] → spL L = Lib.join (L.map Wd.text) [32] ++ [32]
  | [], h => absurd rfl h
  | [w], _ => by simp [spL, Lib.join_one]
  | w :: w' :: L, _ => by
    have ih := spL_join (w' :: L) (by simp)
    have : spL (w :: w' :: L) = w.text ++ [32] ++ spL (w' :: L) := by simp [spL]
    rw [this, ih]
    simp only [List.map_cons, Lib.join_cons, tail_cons]
    simp
theorem spL_text (L : List Wd) : (spL L).take ((spL L).length - 1) = Lib.join (L.map Wd.text) [32] := by
  by_cases h : L = []
  · subst h; rfl
  · rw [spL_join L h]
    simp
theorem spL_eq_nil {L : List Wd} : spL L = [] ↔ L = [] := by
  constructor
  · intro h
    cases L with
    | nil => rfl
    | cons w L => simp [spL] at h
  · rintro rfl; rfl

theorem seg_len {n b : Nat} {p : Nat → Bool} {f : Nat → Wd} (h : ∀ i, i < n → (f i).text.length ≤ b) : (spL (((List.range n).filter p).map f)).length ≤ n * (b + 1) := by
  induction n with
  | zero => simp [spL]
  | succ n ih =>
    have := ih (fun i hi => h i (by omega))
    rw [List.range_succ, List.filter_append, List.map_append, spL_append, List.length_append]
    have h2 : (spL ((List.filter p [n]).map f)).length ≤ b + 1 := by
      cases hp : p n with
      | true =>
        have := h n (by omega)
        simp [hp, spL_one]
        exact this
      | false => simp [hp, spL_nil]
    rw [Nat.add_mul, Nat.one_mul]
    omega

theorem dd_len2 {n : Nat} (h : n < 100) : (Lib.decDigits n).length ≤ 2 := dd_len 1 n (by omega)
theorem dd_len5 {n : Nat} (h : n < 65536) : (Lib.decDigits n).length ≤ 5 := dd_len 4 n (by omega)
theorem dd_len10 {n : Nat} (h : n < 4294967296) : (Lib.decDigits n).length ≤ 10 := dd_len 9 n (by omega)
theorem itoa_len6 {z : Int} (h1 : -32768 ≤ z) (h2 : z ≤ 32767) : (Lib.itoa z).length ≤ 6 := by
  unfold Lib.itoa
  split
  · have := dd_len5 (n := z.natAbs) (by omega)
    simp; omega
  · have := dd_len5 (n := z.toNat) (by omega)
    omega
theorem mark_len (b : Bool) (c : UInt8) : (markL b c).length ≤ 1 := by cases b <;> simp [markL]
theorem count_len {c : Nat} (d l : Bool) (h : c < 65536) : (countL c d l).length ≤ 7 := by
  have := dd_len5 h
  have h1 := mark_len d 33
  have h2 := mark_len l 43
  simp [countL]
  omega

section
variable {v : MemV} {tx : Nat → List UInt8}
theorem bit_len (k : Nat) : (spL (bitW v k)).length ≤ szN k * 4 := by
  unfold bitW
  have hs : szN k ≤ 64 ∧ (szN k ≠ 0 → k ≤ 5) := by
    unfold szN
    repeat' split
    all_goals omega
  refine seg_len (b := 3) fun i hi => ?_
  have h1 := dd_len2 (n := i) (by omega)
  have h2 := letterL_len (k : Int)
  have hk : k ≤ 5 := hs.2 (by omega)
  simp only [Wd.text, Wd.tail, if_neg (show ¬ k = 11 by omega), if_neg (show ¬ k = 12 by omega), if_neg (show ¬ k = 13 by omega), if_pos hk]
  simp
  omega
theorem timer_len (hv : v.Ok) : (spL (timerW v)).length ≤ 16 * 12 := by
  refine seg_len (b := 11) fun i hi => ?_
  have h1 := dd_len2 (n := i) (by omega)
  have h3 := count_len (v.tD i) false (hv.tC i)
  show (letterL ((7 : Nat) : Int) ++ (Lib.decDigits i ++ 61 :: countL (v.tC i) (v.tD i) false)).length ≤ 11
  have h2 := letterL_len ((7 : Nat) : Int)
  simp only [List.length_append, List.length_cons]
  omega
theorem counter_len (hv : v.Ok) : (spL (counterW v)).length ≤ 16 * 12 := by
  refine seg_len (b := 11) fun i hi => ?_
  have h1 := dd_len2 (n := i) (by omega)
  have h3 := count_len (v.cD i) (v.cL i) (hv.cC i)
  show (letterL ((8 : Nat) : Int) ++ (Lib.decDigits i ++ 61 :: countL (v.cC i) (v.cD i) (v.cL i))).length ≤ 11
  have h2 := letterL_len ((8 : Nat) : Int)
  simp only [List.length_append, List.length_cons]
  omega
theorem int_len (hv : v.Ok) : (spL (intW v)).length ≤ 32 * 11 := by
  refine seg_len (b := 10) fun i hi => ?_
  have h1 := dd_len2 (n := i) (by omega)
  have h3 := itoa_len6 (hv.d1 i) (hv.d2 i)
  show (letterL ((9 : Nat) : Int) ++ (Lib.decDigits i ++ 61 :: Lib.itoa (v.d i))).length ≤ 10
  have h2 := letterL_len ((9 : Nat) : Int)
  simp only [List.length_append, List.length_cons]
  omega
theorem real_len (ht : ∀ i, i < 16 → (tx i).length ≤ 50) : (spL (realW tx)).length ≤ 16 * 55 := by
  refine seg_len (b := 54) fun i hi => ?_
  have h1 := dd_len2 (n := i) (by omega)
  have h3 := ht i hi
  show (letterL ((10 : Nat) : Int) ++ (Lib.decDigits i ++ 61 :: tx i)).length ≤ 54
  have h2 := letterL_len ((10 : Nat) : Int)
  simp only [List.length_append, List.length_cons]
  omega
theorem time_len (hv : v.Ok) : (spL (timeW v)).length ≤ 16 := by
  unfold timeW
  split
  · rw [spL_one]
    have := dd_len10 hv.time
    show ([116, 105, 109, 101, 61] ++ Lib.decDigits v.time ++ [32]).length ≤ 16
    simp
    omega
  · simp [spL]
theorem ran_len : (spL (ranW v)).length ≤ 4 := by
  unfold ranW
  split
  · rw [spL_one]; decide
  · simp [spL]
theorem fault_len : (spL (faultW v)).length ≤ 6 := by
  unfold faultW
  split
  · rw [spL_one]; decide
  · simp [spL]

theorem bits_len : (spL (bitsW v)).length ≤ 704 := by
  have h1 := bit_len (v := v) 1
  have h2 := bit_len (v := v) 2
  have h3 := bit_len (v := v) 3
  have h4 := bit_len (v := v) 4
  have h5 := bit_len (v := v) 5
  have e1 : szN 1 = 32 := rfl
  have e2 : szN 2 = 32 := rfl
  have e3 : szN 3 = 64 := rfl
  have e4 : szN 4 = 16 := rfl
  have e5 : szN 5 = 32 := rfl
  rw [e1] at h1
  rw [e2] at h2
  rw [e3] at h3
  rw [e4] at h4
  rw [e5] at h5
  simp only [bitsW, spL_append, List.length_append]
  omega

theorem all_len (hv : v.Ok) (ht : ∀ i, i < 16 → (tx i).length ≤ 50) : (spL (allW v tx)).length ≤ 2400 := by
  have h1 := bits_len (v := v)
  have h2 := timer_len hv
  have h3 := counter_len hv
  have h4 := int_len hv
  have h5 := real_len ht
  have h6 := time_len hv
  have h7 := ran_len (v := v)
  have h8 := fault_len (v := v)
  simp only [allW, spL_append, List.length_append]
  omega
theorem textV_len (hv : v.Ok) (ht : ∀ i, i < 16 → (tx i).length ≤ 50) : (textV v tx).length ≤ 2400 := by
  have := all_len hv ht
  unfold textV
  rw [← spL_text, List.length_take]
  omega
end

end Go.Proofs.YtdhoimjkgicneaaGreatDoor

/- Words of a memory's text as they are written one by one. Of no one program. -/
namespace Go.Proofs.YtdhoimjkgicneaaGreatDoor
open Go

/-- The words of the first n places. -/
def seg (n : Nat) (p : Nat → Bool) (f : Nat → Wd) : List Wd := ((List.range n).filter p).map f
theorem seg_zero (p : Nat → Bool) (f : Nat → Wd) : seg 0 p f = [] := rfl
theorem seg_succ (n : Nat) (p : Nat → Bool) (f : Nat → Wd) : seg (n + 1) p f = seg n p f ++ (if p n then [f n] else []) := by
  unfold seg
  rw [List.range_succ, List.filter_append, List.map_append]
  congr 1
  by_cases h : p n = true <;> simp [h]
theorem seg_yes {n : Nat} {p : Nat → Bool} {f : Nat → Wd} (h : p n = true) : seg (n + 1) p f = seg n p f ++ [f n] := by rw [seg_succ, if_pos h]
theorem seg_no {n : Nat} {p : Nat → Bool} {f : Nat → Wd} (h : p n = false) : seg (n + 1) p f = seg n p f := by rw [seg_succ, h]; simp
theorem seg_leN (n m : Nat) (p : Nat → Bool) (f : Nat → Wd) (h : n ≤ m) : ∃ L, seg m p f = seg n p f ++ L := by
  induction m with
  | zero => exact ⟨[], by rw [show n = 0 by omega]; simp⟩
  | succ m ih =>
    by_cases e : n = m + 1
    · subst e; exact ⟨[], by simp⟩
    · obtain ⟨L, hL⟩ := ih (by omega)
      exact ⟨L ++ (if p m then [f m] else []), by rw [seg_succ, hL, List.append_assoc]⟩

def bitP (v : MemV) (k n : Nat) : List Wd := seg n (fun i => (wdN v k).testBit i) fun i => ⟨k, i, 0, false, false, 0, []⟩
def timerP (v : MemV) (n : Nat) : List Wd := seg n (fun i => v.tD i || v.tC i != 0) fun i => ⟨7, i, v.tC i, v.tD i, false, 0, []⟩
def counterP (v : MemV) (n : Nat) : List Wd := seg n (fun i => v.cD i || (v.cL i || v.cC i != 0)) fun i => ⟨8, i, v.cC i, v.cD i, v.cL i, 0, []⟩
def intP (v : MemV) (n : Nat) : List Wd := seg n (fun i => v.d i != 0) fun i => ⟨9, i, 0, false, false, v.d i, []⟩
def realP (tx : Nat → List UInt8) (n : Nat) : List Wd := seg n (fun i => tx i != [48]) fun i => ⟨10, i, 0, false, false, 0, tx i⟩
theorem bitP_all (v : MemV) (k : Nat) : bitP v k (szN k) = bitW v k := rfl
theorem timerP_all (v : MemV) : timerP v 16 = timerW v := rfl
theorem counterP_all (v : MemV) : counterP v 16 = counterW v := rfl
theorem intP_all (v : MemV) : intP v 32 = intW v := rfl
theorem realP_all (tx : Nat → List UInt8) : realP tx 16 = realW tx := rfl

/-- The bits of the first kinds. -/
def kindsP (v : MemV) : Nat → List Wd
  | 0 => []
  | k + 1 => kindsP v k ++ bitW v (k + 1)
theorem kindsP_all (v : MemV) : kindsP v 5 = bitsW v := by simp [kindsP, bitsW]

theorem size_kind {k : Nat} (h1 : 1 ≤ k) (h2 : k ≤ 5) : sizeZ (k : Int) = (szN k : Nat) ∧ 16 ≤ szN k ∧ szN k ≤ 64 := by
  have : k = 1 ∨ k = 2 ∨ k = 3 ∨ k = 4 ∨ k = 5 := by omega
  rcases this with rfl | rfl | rfl | rfl | rfl <;> exact ⟨by decide, by decide, by decide⟩

theorem mbit_kind (v : MemV) {k n : Nat} (h1 : 1 ≤ k) (h2 : k ≤ 5) (hn : n < szN k) : mbit v (k : Int) (n : Int) = (wdN v k).testBit n := by
  have e : ∀ x : Nat, (x / 2 ^ n % 2 == 1) = x.testBit n := fun x => by rw [Nat.testBit_eq_decide_div_mod_eq]; rfl
  have : k = 1 ∨ k = 2 ∨ k = 3 ∨ k = 4 ∨ k = 5 := by omega
  have ha : (atZ (k : Int) (n : Int)).toNat = n := by
    have hs := size_kind h1 h2
    unfold atZ szR
    rw [if_neg (by omega), if_neg (by omega), hs.1, Int.emod_eq_of_lt (by omega) (by omega)]
    simp
  unfold mbit
  rw [ha, e, e, e, e, e]
  rcases this with rfl | rfl | rfl | rfl | rfl <;> simp [wdN]

end Go.Proofs.YtdhoimjkgicneaaGreatDoor

/- Strings in memory: a slice that holds them, a slice that owns them; one put behind. -/
namespace Go.Proofs.YtdhoimjkgicneaaGreatDoor
open Go Go.RowKit

/-- Strings as values. -/
def strsV (ss : List (List UInt8)) : List Value := ss.map fun s => .string ⟨s.toArray⟩
theorem strsV_len (ss : List (List UInt8)) : (strsV ss).length = ss.length := by simp [strsV]
theorem strsV_append (a b : List (List UInt8)) : strsV (a ++ b) = strsV a ++ strsV b := by simp [strsV]
theorem strsV_get (ss : List (List UInt8)) (i : Nat) : (strsV ss)[i]? = ss[i]?.map fun s => .string ⟨s.toArray⟩ := by simp [strsV]
theorem strsV_one (ss : List (List UInt8)) : ∀ u ∈ strsV ss, u.oneCell' = true := by
  intro u hu
  simp only [strsV, List.mem_map] at hu
  obtain ⟨x, -, rfl⟩ := hu
  rfl

/-- A slice that owns strings. -/
abbrev OwnS (base : Nat) (v : Value) (ss : List (List UInt8)) (w : World) : Prop := w.ownsRow base 9 1 v ss.length (strsV ss)

theorem ownS_nil (base : Nat) (w : World) : OwnS base (.slice none 0 0) [] w := World.ownsRow_nil w base 9 1
theorem OwnS.lt {base : Nat} {v : Value} {ss : List (List UInt8)} {w : World} (h : OwnS base v ss w) {k : Nat} (hk : v.ownBlock = some k) : base ≤ k ∧ k < w.heap.size := World.ownsRow.lt h k hk
theorem OwnS.kept {base : Nat} {v : Value} {ss : List (List UInt8)} {w w' : World} (h : OwnS base v ss w) (hk : ∀ g, v.ownBlock = some g → w'.heap[g]? = w.heap[g]?) : OwnS base v ss w' := by
  refine ⟨h.1, ?_⟩
  rcases h.2 with hn | ⟨g, cap, cur, rfl, hb, hg, rest⟩
  · exact .inl hn
  · exact .inr ⟨g, cap, cur, rfl, hb, (hk g rfl).trans hg, rest⟩
theorem OwnS.below {base B : Nat} {v : Value} {ss : List (List UInt8)} {w w' : World} (h : OwnS base v ss w) (hb : Below B w w') (hB : w.heap.size ≤ B) : OwnS base v ss w' := h.kept fun g hg => hb.block g (by have := h.lt hg; omega)
theorem OwnS.mono {base base' : Nat} {v : Value} {ss : List (List UInt8)} {w : World} (h : OwnS base v ss w) (hb : base' ≤ base) : OwnS base' v ss w := by
  refine ⟨h.1, ?_⟩
  rcases h.2 with hn | ⟨g, cap, cur, rfl, hg, rest⟩
  · exact .inl hn
  · exact .inr ⟨g, cap, cur, rfl, Nat.le_trans hb hg, rest⟩
theorem ownS_cases {base : Nat} {v : Value} {ss : List (List UInt8)} {w : World} (h : OwnS base v ss w) : (v = .slice none 0 0 ∧ ss = []) ∨ ∃ g cap, v = .slice (some ⟨g, 0, none⟩) ss.length cap ∧ base ≤ g ∧ g < w.heap.size ∧ ss.length ≤ cap ∧ ∀ (i : Nat) (x : List UInt8), ss[i]? = some x → w.cell? ⟨g, i, none⟩ = some (.string ⟨x.toArray⟩) := by
  rcases h.2 with ⟨rfl, h0⟩ | ⟨g, cap, cur, rfl, hb, hg, hn, -⟩
  · exact Or.inl ⟨rfl, List.eq_nil_of_length_eq_zero h0⟩
  · refine Or.inr ⟨g, cap, rfl, hb, (Array.getElem?_eq_some_iff.1 hg).1, hn, fun i x hx => ?_⟩
    have hi : i < ss.length := (List.getElem?_eq_some_iff.1 hx).1
    rw [World.ownsRow.cellAt (cap := cap) h i (by omega), strsV_get, hx]
    rfl
theorem ownS_size {base : Nat} {v : Value} {ss : List (List UInt8)} {w : World} (h : OwnS base v ss w) : ∃ (a : Option Addr) (cap : Nat), v = .slice a ss.length cap := by
  rcases ownS_cases h with ⟨rfl, rfl⟩ | ⟨g, cap, rfl, -⟩
  · exact ⟨_, _, rfl⟩
  · exact ⟨_, _, rfl⟩

theorem info_str : (Tryz.prog.info? 9).map (fun i => (i.zero, i.size, i.bytes)) = some (some (.string ⟨#[]⟩), 1, 16) := by kernel_rfl

theorem addr_addS (b off j : Nat) : (⟨b, off, none⟩ : Addr).add j = ⟨b, off + j, none⟩ := by unfold Addr.add; split <;> simp_all

theorem run_appS (base : Nat) {v s : Value} {xs ys : List (List UInt8)} {w : World} (ty : TypeId) (h : OwnS base v xs w) (hs : (∃ b cap, s = .slice (some ⟨b, 0, none⟩) ys.length cap ∧ ∀ (i : Nat) (x : List UInt8), ys[i]? = some x → w.cell? ⟨b, i, none⟩ = some (.string ⟨x.toArray⟩)) ∨ (ys = [] ∧ s = .slice none 0 0)) (hl : xs.length + ys.length ≤ 100000) (hb : base ≤ w.heap.size) :
    ∃ v' w', (Builtin.append_ #[48, 48] ty #[v, s]).run Tryz.prog w = .ok v' w' ∧ OwnS base v' (xs ++ ys) w' ∧ w.grownBy w' v.ownBlock := by
  obtain ⟨i, hi, hz, h1, h2⟩ := info_parts info_str
  rcases hs with ⟨b, cap, rfl, he⟩ | ⟨rfl, rfl⟩
  · obtain ⟨v', w', hr, ho, hg, -, -⟩ := run_append_own_at (P := Tryz.prog) w base 48 ty 9 i (.string ⟨#[]⟩) 1 16 Tryz.underlying48 hi hz h1 h2 rfl (by decide) v xs.length (strsV xs) h ⟨b, 0, none⟩ ys.length cap (strsV ys) (by simp [strsV_len]) (by
        intro j u hj
        rw [strsV_get] at hj
        cases hy : ys[j]? with
        | none => rw [hy] at hj; simp at hj
        | some x =>
          rw [hy] at hj
          simp at hj
          rw [addr_addS, Nat.zero_add, he j x hy, hj]) (strsV_one ys) (by unfold maxLen; omega) (by omega) hb
    refine ⟨v', w', hr, ?_, hg⟩
    unfold OwnS
    rw [strsV_append, List.length_append]
    exact ho
  · refine ⟨v, w, run_append_owned_none (P := Tryz.prog) (w := w) base 48 ty 9 i 1 Tryz.underlying48 hi v xs.length (strsV xs) h, ?_, World.grownBy.refl w _⟩
    simpa using h

theorem list_appS (base : Nat) {v s : Value} {xs ys : List (List UInt8)} {w : World} {ops : Array Oper} {rest : List Oper} {o : Oper} {a : Act} {Q : Exit → Act → World → Prop} (hgd : o.guard = none) (p x : Operand)
    (ho : o.op = .call { callee := .builtin .append, args := #[p, x], argTypes := #[48, 48] }) (hp : a.eval p = v) (hx : a.eval x = s)
    (h : OwnS base v xs w) (hs : (∃ b cap, s = .slice (some ⟨b, 0, none⟩) ys.length cap ∧ ∀ (i : Nat) (x : List UInt8), ys[i]? = some x → w.cell? ⟨b, i, none⟩ = some (.string ⟨x.toArray⟩)) ∨ (ys = [] ∧ s = .slice none 0 0)) (hl : xs.length + ys.length ≤ 100000) (hb : base ≤ w.heap.size)
    (hK : ∀ v' w', OwnS base v' (xs ++ ys) w' → w.grownBy w' v.ownBlock → wpList Tryz.prog ops Q rest (a.put o.dst v') w') :
    wpList Tryz.prog ops Q (o :: rest) a w := by
  refine wpList_plain hgd fun K hK' => ?_
  obtain ⟨v', w', hr, h2, h3⟩ := run_appS base o.type h hs hl hb
  unfold Oper.wp execOp
  simp only [ho, resolve, invoke, builtin, Sem.run_bind, Sem.run_pure, Result.andThen_ok, List.map_toArray, List.map_cons, List.map_nil, hp, hx, hr]
  exact hK' _ _ (hK v' w' h2 h3)

theorem one_str (x : List UInt8) (w : World) (t : TypeId) : (∃ b cap, (Value.slice (some ⟨w.heap.size, 0, none⟩) 1 1) = .slice (some ⟨b, 0, none⟩) [x].length cap ∧ ∀ (i : Nat) (y : List UInt8), [x][i]? = some y → (w.alloc (.cells #[.string ⟨x.toArray⟩] t)).cell? ⟨b, i, none⟩ = some (.string ⟨y.toArray⟩)) ∨ ([x] = [] ∧ (Value.slice (some ⟨w.heap.size, 0, none⟩) 1 1) = .slice none 0 0) := by
  refine Or.inl ⟨w.heap.size, 1, rfl, fun i y hy => ?_⟩
  match i, hy with
  | 0, hy => simp at hy; subst hy; simp

theorem grownS_below {w w' : World} {row : Option Nat} {B : Nat} (h : w.grownBy w' row) (hB : B ≤ w.heap.size) (hr : ∀ g, row = some g → B ≤ g) : Below B w w' :=
  ⟨h.os, h.tape, h.output, h.size, fun i hi => h.block i (by omega) (fun e => by have := hr i e.symm; omega)⟩

end Go.Proofs.YtdhoimjkgicneaaGreatDoor
